/- stereo: told (made by tools/mkUJ.py) -/
import Derived.Test.YtopjjdfnnjgnlaaUI
import Derived.Deep.RegionLaw
import Derived.Deep.AppendLies
namespace Go.Proofs.Ytopjjdfnnjgnlaa
open Go.RowKit Go.Shelf
attribute [local go_sem] Oper.semAt_some

theorem boxes3' (W : World) (o0 o1 o2 : Obj) : (((W.alloc o0).alloc o1).alloc o2).heap.size = W.heap.size + 1 + 1 + 1 := by simp
set_option maxRecDepth 100000 in
set_option maxHeartbeats 8000000 in
theorem toldC_any (g c : Nat) (sw : Value) (ws : List Int) (p : Nat → Int × Int) (w : World) (hw : isW ws = true) (hi : Ints w sw ws) (hp : PrsA w g 0 p 128) (hc : 128 ≤ c) (hpi : ∀ i, InP 2097152 (p i)) :
    Calls Try.prog 50 #[.agg #[.slice (some ⟨g, 0, none⟩) 128 c, sw], .func (.func 55) #[] #[]] w (IRes w ((List.range ws.length).map fun k => crV (fun t => p (psN ws k + t)) (wdN ws k))) := by
  obtain ⟨W0, hW0⟩ : ∃ W, W = ((w.alloc (.cells #[.slice (some ⟨g, 0, none⟩) 128 c, sw] 51)).alloc (.cells #[.func (.func 55) #[] #[]] 55)).alloc (.cells #[.slice none 0 0] 22) := ⟨_, rfl⟩
  obtain ⟨b0, b1, b2, hu0⟩ := boxes3 w (.cells #[.slice (some ⟨g, 0, none⟩) 128 c, sw] 51) (.cells #[.func (.func 55) #[] #[]] 55) (.cells #[.slice none 0 0] 22)
  have hsz0 := boxes3' w (.cells #[.slice (some ⟨g, 0, none⟩) 128 c, sw] 51) (.cells #[.func (.func 55) #[] #[]] 55) (.cells #[.slice none 0 0] 22)
  rw [← hW0] at b0 b1 b2 hu0 hsz0
  obtain ⟨W, hW⟩ : ∃ W, W = W0.alloc (.cells #[.slice (some ⟨g, 0, none⟩) 128 c, sw] 51) := ⟨_, rfl⟩
  have b3 : W.heap[W0.heap.size]? = some (.cells #[.slice (some ⟨g, 0, none⟩) 128 c, sw] 51 (0, 0)) := by rw [hW]; exact heap_alloc_new W0 _
  have u3 : Upd NoB W0 W := by rw [hW]; exact (Upd.refl _ _).alloc _
  have hu := hu0.then u3
  have HSq := Lib.hid (bands1_seq W0.heap.size 1 _ sw ws W hw (hi.later hu) b3)
  have hne : ws ≠ [] := by
    rintro rfl
    have := (isW_ok hw).2.1
    simp at this
  have hD : ∀ j, bandD W0.heap.size sw j → j < W.heap.size ∧ j ≠ w.heap.size + 1 + 1 := fun j hj => by
    rcases hj with rfl | hj
    · exact ⟨lt_of_block b3, by omega⟩
    · have := hi.lt hne j hj
      have := hu.size
      omega
  have HD := Lib.hid hD
  have HP := Lib.hid (hp.later hu); have HPi := Lib.hid hpi
  have HWg := Lib.hid (fun k hk => isW_get hw (k := k) hk)
  have HB0 := Lib.hid (u3.heap b0 (noB _)); have HB1 := Lib.hid (u3.heap b1 (noB _)); have HB2 := Lib.hid (u3.heap b2 (noB _)); have HU := Lib.hid hu
  have HgW := Lib.hid (show g < w.heap.size from (by have := World.block_lt_of_cell? w _ (hp 0 (by decide)).1; exact this))
  have HSz := Lib.hid (show w.heap.size + 1 + 1 + 1 < W.heap.size from by have := lt_of_block b3; omega)
  have HWd := Lib.hid (fun k x (hx : ws[k]? = some ((x : Nat) : Int)) => (show wdN ws k = x by unfold wdN; rw [List.getD_eq_getElem?_getD, hx]; exact Int.toNat_natCast x))
  have HLn := Lib.hid (show ((List.range ws.length).map fun k => crV (fun t => p (psN ws k + t)) (wdN ws k)).length = ws.length from rmap_len _ _)
  have HSc := Lib.hid (fun k => rmap_succ (fun k => crV (fun t => p (psN ws k + t)) (wdN ws k)) k)
  have hN8 := (isW_ok hw).1
  have HW := Lib.hid hW; have HW0 := Lib.hid hW0
  have HB := Lib.hid (show W0.heap.size = w.heap.size + 1 + 1 + 1 from hsz0)
  obtain ⟨sa, sn, sc, rfl⟩ : ∃ a n c, sw = .slice a n c := by obtain ⟨a, c, e⟩ := hi.form; exact ⟨a, _, c, e⟩
  have c0 := cell_of_block0 b0
  have c1 := cell_of_block1 b0
  obtain ⟨i0, hii, hz0, hz1, hz2⟩ := info_parts Try.infoInt
  clear hp hi hw hW hW0 b0 b1 b2 b3 hu0 u3 hu hD hpi hsz0 hne
  refine (callsIn_wide (n := 2)).1 ?_
  refine callsIn_of_wp_marks Try.func50 rfl trivial (wpIn_wide.2 ?_) rfl
  simp only [Try.ntmps50, List.size_toArray, List.length_cons, List.length_nil, Nat.reduceAdd, Nat.reduceSub, Array.replicate_succ, Array.replicate_zero, List.push_toArray, List.append_toArray, List.nil_append, List.cons_append]
  go_wp2_with fail
  rw [← HW0.out]
  refine (bands_any _ _ W0).mono ?_
  rintro e w2 ⟨rfl, rfl⟩
  rw [← HW.out]
  obtain ⟨B, hB⟩ : ∃ B, W0.heap.size = B := ⟨_, rfl⟩
  rw [hB] at HSq HD HB ⊢
  obtain ⟨g2, hg2⟩ : ∃ B, w.heap.size = B := ⟨_, rfl⟩
  have HG2 := Lib.hid hg2
  rw [hg2] at HD HB0 HB1 HB2 HgW HSz HB c0 c1 ⊢
  obtain ⟨g3, hg3⟩ : ∃ B, g2 + 1 = B := ⟨_, rfl⟩
  rw [hg3] at HD HB1 HB2 HSz HB ⊢
  obtain ⟨g5, hg5⟩ : ∃ B, g3 + 1 = B := ⟨_, rfl⟩
  rw [hg5] at HD HB2 HSz HB ⊢
  have HG3 := Lib.hid hg3; have HG5 := Lib.hid hg5
  clear hB hg2 hg3 hg5 c0 c1
  go_wp2_with fail
  refine (wpIn_wide (n := 2)).1 (wpIn_rangeN rfl (by omega) (gf := 110) (lb := #[.pointer (some ⟨B, 0, none⟩)]) rfl trivial (enters_of Try.func110 (by kernel_rfl) rfl) HSq.out (fun h k => ⟨h.1.trans k.1, Nat.le_trans h.2 k.2⟩) (fun W' l o' hl => ⟨keepD_putObj (fun hd => by have := (HD.out _ hd).1; omega), (grownBy_putObj' W' l o').size⟩) (Below.refl _ _) (fun _ => rfl)
    (fun k W' => (∃ v, W'.heap[g5]? = some (.cells #[v] 22 (0, 0)) ∧ W'.ownsRow (W.heap.size + 2) 3 1 v k (i64s ((List.range k).map fun k => crV (fun t => p (psN ws k + t)) (wdN ws k)))) ∧ Upd (fun j => j = g5) W W')
    ?hI ⟨⟨_, HB2.out, World.ownsRow_nil _ _ _ _⟩, Upd.refl _ _⟩
    (fun k a' W' => ∃ s0, W.heap.size ≤ s0 ∧ W'.heap[s0]? = some (.cells #[.int .i64 (psN ws k : Nat), .int .i64 (psN ws (k + 1) : Nat)] 90 (0, 0)) ∧ a' = { tmps := #[.agg #[.slice (some ⟨g, 0, none⟩) 128 c, .slice sa sn sc], .func (.func 55) #[] #[], .pointer (some ⟨g2, 0, none⟩), .pointer (some ⟨g3, 0, none⟩), .slice none 0 0, .pointer (some ⟨g5, 0, none⟩), undef, .pointer (some ⟨s0, 0, none⟩), .agg #[.slice (some ⟨g, 0, none⟩) 128 c, .slice sa sn sc], .func (.func 110) #[] #[.pointer (some ⟨B, 0, none⟩)], .int .i64 (k : Nat), .agg #[.int .i64 (psN ws k : Nat), .int .i64 (psN ws (k + 1) : Nat)], undef, undef, undef, undef, undef, undef, undef, undef, undef, undef, undef, undef, undef], defers := [] }) ?hAx ?assign ?body ?done)
  case hI =>
    rintro s A B' row ⟨⟨v, h1, h3⟩, h4⟩ hg hr
    refine ⟨⟨v, (hg.block _ (lt_of_block h1) (fun e => ?_)).trans h1, srow_grown h3 hg (fun r e => ?_)⟩, h4.grown hg (fun k e hk => ?_)⟩
    · have := (hr _ e.symm).1; have := HSz.out; omega
    · exact (hr r e).2.imp (fun h => by omega) id
    · have := (hr k e).1; have := HSz.out; omega
  case hAx =>
    rintro x a' _ A A' row ⟨s0, h0, h1, h2⟩ hg hr
    refine ⟨s0, h0, (hg.block _ (lt_of_block h1) (fun e => ?_)).trans h1, h2⟩
    obtain ⟨_, o, ho, hc⟩ := hr _ e.symm
    rw [h1] at ho; cases ho; cases hc
  case assign =>
    rintro l k V K ⟨⟨v, h1, h3⟩, hu⟩ hk hK
    obtain ⟨F, hF⟩ : ∃ F, psN ws k = F := ⟨_, rfl⟩
    obtain ⟨T, hT⟩ : ∃ T, psN ws (k + 1) = T := ⟨_, rfl⟩
    simp only [encB, hF, hT] at hK ⊢
    have uA : Upd NoB V (V.alloc (.cells #[.int .i64 F, .int .i64 T] 90)) := (Upd.refl _ _).alloc _
    have HKh := Lib.hid @hK
    have HsV := Lib.hid hu.size
    clear hK hF hT
    gi_wp2
    exact HKh.out _ _ (keeps_of_upd uA (fun _ _ h => h)) ⟨⟨uA.keepD (fun j hj => ⟨by have := (HD.out j hj).1; have := HsV.out; omega, fun h => h⟩), uA.size⟩, fun j h1 h2 => by omega⟩ ⟨⟨v, uA.heap h1 (noB _), uA.row h3 (fun j _ => noB j)⟩, hu.alloc _⟩ ⟨_, HsV.out, heap_alloc_new V _, rfl⟩
  case body =>
    rintro l k a' V ⟨⟨v, hb, hrow⟩, hu⟩ ⟨s0, hs0, hms, rfl⟩ hVs hk
    obtain ⟨va, vc, rfl⟩ := row_form hrow
    obtain ⟨x, hx, x1, x8, hs, hs8⟩ := HWg.out k hk
    have hwx := HWd.out k x hx
    have HScK := HSc.out k
    rw [hwx] at HScK
    simp only [hs] at hms ⊢
    have HScX := Lib.hid HScK
    clear HScK
    obtain ⟨q, hq⟩ : ∃ q, crV (fun t => p (psN ws k + t)) x = q := ⟨_, rfl⟩
    have hpV : PrsA V g 0 p 128 := HP.out.upd hu (by have := HgW.out; have := HG3.out; have := HG5.out; omega)
    have HCl := Lib.hid (fun Z (u : Upd NoB V Z) => crossOf_any g (psN ws k * 2) x (c - psN ws k) (fun t => p (psN ws k + t)) Z ((hpV.sub hs8).later u) x8 (fun i => HPi.out _))
    rw [hq] at HCl HScX
    generalize (List.range k).map (fun k => crV (fun t => p (psN ws k + t)) (wdN ws k)) = xs at *
    obtain ⟨f, hf⟩ : ∃ f, psN ws k = f := ⟨_, rfl⟩
    obtain ⟨t, ht⟩ : ∃ t, f + x = t := ⟨_, rfl⟩
    rw [hf] at hs8 HCl hms ⊢
    rw [ht] at hs8 hms ⊢
    have hsl := fun Z => run_slice_pr Z g 128 c f t (by omega) (by omega) (by omega)
    rw [show t - f = x by omega] at hsl
    have hneS : (Value.slice va k vc).ownBlock ≠ some s0 := row_ne hrow hms (by decide)
    have hsW := hu.size
    have h2V := hu.heap HB0.out (by have := HG3.out; have := HG5.out; omega)
    have h3V := hu.heap HB1.out (by have := HG5.out; omega)
    have k0 : V.cell? ⟨g3, 0, none⟩ = some (.func (.func 55) #[] #[]) := blk_cell h3V 0
    have k1 : V.cell? ⟨g2, 0, none⟩ = some (.slice (some ⟨g, 0, none⟩) 128 c) := blk_cell h2V 0
    have k2 : V.cell? ⟨s0, 0, none⟩ = some (.int .i64 (f : Int)) := blk_cell hms 0
    have k3 : V.cell? ⟨s0, 1, none⟩ = some (.int .i64 (t : Int)) := blk_cell hms 1
    have HSZ := Lib.hid (show ∀ Z, Upd NoB V Z → Z.cell? ⟨g3, 0, none⟩ = some (.func (.func 55) #[] #[]) ∧ Z.cell? ⟨g2, 0, none⟩ = some (.slice (some ⟨g, 0, none⟩) 128 c) ∧ Z.cell? ⟨s0, 0, none⟩ = some (.int .i64 (f : Int)) ∧ Z.cell? ⟨s0, 1, none⟩ = some (.int .i64 (t : Int)) from fun Z u => ⟨u.cell k0 (noB _), u.cell k1 (noB _), u.cell k2 (noB _), u.cell k3 (noB _)⟩)
    have hg5W : g5 < W.heap.size := by have := HSz.out; omega
    have hg2W : g2 < g5 ∧ g3 < g5 := by have := HG3.out; have := HG5.out; omega
    have HEnd := Lib.hid (show ∀ (w4 w6 : World) (g6 c6 : Nat), Upd NoB V w4 → w6.ownsRow (W.heap.size + 2) 3 1 (.slice (some ⟨g6, 0, none⟩) (k + 1) c6) (k + 1) (i64s xs ++ [.int .i64 q]) → (w4.alloc (.cells #[.int .i64 q] 3)).grownBy w6 (Value.slice va k vc).ownBlock →
        w6.heap[g5]? = some (.cells #[.slice va k vc] 22 (0, 0)) ∧
        (w6.cell? ⟨g3, 0, none⟩ = some (.func (.func 55) #[] #[]) ∧ w6.cell? ⟨g2, 0, none⟩ = some (.slice (some ⟨g, 0, none⟩) 128 c) ∧ w6.cell? ⟨s0, 0, none⟩ = some (.int .i64 (f : Int)) ∧ w6.cell? ⟨s0, 1, none⟩ = some (.int .i64 (t : Int))) ∧
        ((w6.setCell ⟨g5, 0, none⟩ (.slice (some ⟨g6, 0, none⟩) (k + 1) c6)).cell? ⟨g3, 0, none⟩ = some (.func (.func 55) #[] #[]) ∧ (w6.setCell ⟨g5, 0, none⟩ (.slice (some ⟨g6, 0, none⟩) (k + 1) c6)).cell? ⟨g2, 0, none⟩ = some (.slice (some ⟨g, 0, none⟩) 128 c) ∧ (w6.setCell ⟨g5, 0, none⟩ (.slice (some ⟨g6, 0, none⟩) (k + 1) c6)).cell? ⟨s0, 0, none⟩ = some (.int .i64 (f : Int)) ∧ (w6.setCell ⟨g5, 0, none⟩ (.slice (some ⟨g6, 0, none⟩) (k + 1) c6)).cell? ⟨s0, 1, none⟩ = some (.int .i64 (t : Int))) ∧
        KeepsFrom W.heap.size V (w6.setCell ⟨g5, 0, none⟩ (.slice (some ⟨g6, 0, none⟩) (k + 1) c6)) ∧
        ((KeepD (bandD B (.slice sa sn sc)) V (w6.setCell ⟨g5, 0, none⟩ (.slice (some ⟨g6, 0, none⟩) (k + 1) c6)) ∧ V.heap.size ≤ (w6.setCell ⟨g5, 0, none⟩ (.slice (some ⟨g6, 0, none⟩) (k + 1) c6)).heap.size) ∧ Win (W.heap.size + 2) 0 V (w6.setCell ⟨g5, 0, none⟩ (.slice (some ⟨g6, 0, none⟩) (k + 1) c6))) ∧
        (∃ v, (w6.setCell ⟨g5, 0, none⟩ (.slice (some ⟨g6, 0, none⟩) (k + 1) c6)).heap[g5]? = some (.cells #[v] 22 (0, 0)) ∧ (w6.setCell ⟨g5, 0, none⟩ (.slice (some ⟨g6, 0, none⟩) (k + 1) c6)).ownsRow (W.heap.size + 2) 3 1 v (k + 1) (i64s ((List.range (k + 1)).map fun k => crV (fun t => p (psN ws k + t)) (wdN ws k)))) ∧
        Upd (fun j => j = g5) W (w6.setCell ⟨g5, 0, none⟩ (.slice (some ⟨g6, 0, none⟩) (k + 1) c6)) from fun w4 w6 g6 c6 u4 hown hg => by
      obtain ⟨⟨e1, e2⟩, e3, e4, e5, e6⟩ := told_step (R := W.heap.size + 2) (by omega) hu hg5W hb hrow u4 HD.out hown hg
      have us : Upd (fun j => j = g5) w6 (w6.setCell ⟨g5, 0, none⟩ (.slice (some ⟨g6, 0, none⟩) (k + 1) c6)) := (Upd.refl (fun j => j = g5) w6).setCell (p := ⟨g5, 0, none⟩) _ (fun _ => rfl)
      have a0 := e2 g3 0 _ (.inl (by omega)) k0
      have a1 := e2 g2 0 _ (.inl (by omega)) k1
      have a2 := e2 s0 0 _ (.inr hneS) k2
      have a3 := e2 s0 1 _ (.inr hneS) k3
      have ns : s0 ≠ g5 := by omega
      rw [HScX.out]
      exact ⟨e1, ⟨a0, a1, a2, a3⟩, ⟨us.cell a0 (fun e => by have e : g3 = g5 := e; omega), us.cell a1 (fun e => by have e : g2 = g5 := e; omega), us.cell a2 ns, us.cell a3 ns⟩, e3, e4, e5, e6⟩)
    have C3 := Lib.hid (show k + 1 ≤ maxLen by unfold maxLen; omega)
    have C4 := Lib.hid (show (k + 1) * 8 ≤ 140737488355328 by omega)
    have HVs := Lib.hid (show W.heap.size + 2 ≤ V.heap.size by omega)
    have HR := Lib.hid hrow; have HBv := Lib.hid hb
    have U0 := Lib.hid (show Upd NoB V V.drew from (Upd.refl NoB V).drew)
    clear hb hrow hu hms hVs hx hwx hs hq hf ht hpV hneS hsW h2V h3V k0 k1 k2 k3 x1 x8 hs8 hs0 hk hg5W hg2W
    gi_wp2
    refine region_held_in (fun Z => Z.cell? ⟨g3, 0, none⟩ = some (.func (.func 55) #[] #[]) ∧ Z.cell? ⟨g2, 0, none⟩ = some (.slice (some ⟨g, 0, none⟩) 128 c) ∧ Z.cell? ⟨s0, 0, none⟩ = some (.int .i64 (f : Int)) ∧ Z.cell? ⟨s0, 1, none⟩ = some (.int .i64 (t : Int))) (by kernel_rfl) (by kernel_rfl) (fun ⟨_, _, h⟩ => h) ?_
    change wpAnyH _ _ _ _ _ 13 #[false, false, false, false, false, false, false, false, false, false, false, false, false] { tmps := #[.agg #[.slice (some ⟨g, 0, none⟩) 128 c, .slice sa sn sc], .func (.func 55) #[] #[], .pointer (some ⟨g2, 0, none⟩), .pointer (some ⟨g3, 0, none⟩), .slice none 0 0, .pointer (some ⟨g5, 0, none⟩), undef, .pointer (some ⟨s0, 0, none⟩), .agg #[.slice (some ⟨g, 0, none⟩) 128 c, .slice sa sn sc], .func (.func 110) #[] #[.pointer (some ⟨B, 0, none⟩)], .int .i64 (k : Nat), .agg #[.int .i64 (f : Nat), .int .i64 (t : Nat)], undef, undef, undef, undef, undef, undef, undef, undef, undef, undef, undef, undef, undef], defers := [] } V.drew
    refine wpAnyH_take (i := 1) (v := .func (.func 55) #[] #[]) rfl (by kernel_rfl) (by kernel_rfl) (by kernel_rfl) (fun _ _ _ h => h) (Or.inl ⟨by rfl, fun Z hZ => ?_⟩) (HSZ.out _ U0.out) ?_
    · obtain ⟨k0, k1, k2, k3⟩ := hZ
      go_simp
    change wpAnyH _ _ _ _ _ 12 #[false, true, false, false, false, false, false, false, false, false, false, false, false] { tmps := #[.agg #[.slice (some ⟨g, 0, none⟩) 128 c, .slice sa sn sc], .func (.func 55) #[] #[], .pointer (some ⟨g2, 0, none⟩), .pointer (some ⟨g3, 0, none⟩), .slice none 0 0, .pointer (some ⟨g5, 0, none⟩), undef, .pointer (some ⟨s0, 0, none⟩), .agg #[.slice (some ⟨g, 0, none⟩) 128 c, .slice sa sn sc], .func (.func 110) #[] #[.pointer (some ⟨B, 0, none⟩)], .int .i64 (k : Nat), .agg #[.int .i64 (f : Nat), .int .i64 (t : Nat)], undef, .func (.func 55) #[] #[], undef, undef, undef, undef, undef, undef, undef, undef, undef, undef, undef], defers := [] } V.drew
    refine wpAnyH_take (i := 2) (v := .pointer (some ⟨g2, 0, none⟩)) rfl (by kernel_rfl) (by kernel_rfl) (by kernel_rfl) (fun _ _ _ h => h) (Or.inl ⟨by rfl, fun Z hZ => ?_⟩) (HSZ.out _ U0.out) ?_
    · obtain ⟨k0, k1, k2, k3⟩ := hZ
      go_simp
    change wpAnyH _ _ _ _ _ 11 #[false, true, true, false, false, false, false, false, false, false, false, false, false] { tmps := #[.agg #[.slice (some ⟨g, 0, none⟩) 128 c, .slice sa sn sc], .func (.func 55) #[] #[], .pointer (some ⟨g2, 0, none⟩), .pointer (some ⟨g3, 0, none⟩), .slice none 0 0, .pointer (some ⟨g5, 0, none⟩), undef, .pointer (some ⟨s0, 0, none⟩), .agg #[.slice (some ⟨g, 0, none⟩) 128 c, .slice sa sn sc], .func (.func 110) #[] #[.pointer (some ⟨B, 0, none⟩)], .int .i64 (k : Nat), .agg #[.int .i64 (f : Nat), .int .i64 (t : Nat)], undef, .func (.func 55) #[] #[], .pointer (some ⟨g2, 0, none⟩), undef, undef, undef, undef, undef, undef, undef, undef, undef, undef], defers := [] } V.drew
    refine wpAnyH_take (i := 3) (v := .slice (some ⟨g, 0, none⟩) 128 c) rfl (by kernel_rfl) (by kernel_rfl) (by kernel_rfl) (fun _ _ _ h => h) (Or.inl ⟨by rfl, fun Z hZ => ?_⟩) (HSZ.out _ U0.out) ?_
    · obtain ⟨k0, k1, k2, k3⟩ := hZ
      go_simp
    change wpAnyH _ _ _ _ _ 10 #[false, true, true, true, false, false, false, false, false, false, false, false, false] { tmps := #[.agg #[.slice (some ⟨g, 0, none⟩) 128 c, .slice sa sn sc], .func (.func 55) #[] #[], .pointer (some ⟨g2, 0, none⟩), .pointer (some ⟨g3, 0, none⟩), .slice none 0 0, .pointer (some ⟨g5, 0, none⟩), undef, .pointer (some ⟨s0, 0, none⟩), .agg #[.slice (some ⟨g, 0, none⟩) 128 c, .slice sa sn sc], .func (.func 110) #[] #[.pointer (some ⟨B, 0, none⟩)], .int .i64 (k : Nat), .agg #[.int .i64 (f : Nat), .int .i64 (t : Nat)], undef, .func (.func 55) #[] #[], .pointer (some ⟨g2, 0, none⟩), .slice (some ⟨g, 0, none⟩) 128 c, undef, undef, undef, undef, undef, undef, undef, undef, undef], defers := [] } V.drew
    refine wpAnyH_take (i := 4) (v := .pointer (some ⟨s0, 0, none⟩)) rfl (by kernel_rfl) (by kernel_rfl) (by kernel_rfl) (fun _ _ _ h => h) (Or.inl ⟨by rfl, fun Z hZ => ?_⟩) (HSZ.out _ U0.out) ?_
    · obtain ⟨k0, k1, k2, k3⟩ := hZ
      go_simp
    change wpAnyH _ _ _ _ _ 9 #[false, true, true, true, true, false, false, false, false, false, false, false, false] { tmps := #[.agg #[.slice (some ⟨g, 0, none⟩) 128 c, .slice sa sn sc], .func (.func 55) #[] #[], .pointer (some ⟨g2, 0, none⟩), .pointer (some ⟨g3, 0, none⟩), .slice none 0 0, .pointer (some ⟨g5, 0, none⟩), undef, .pointer (some ⟨s0, 0, none⟩), .agg #[.slice (some ⟨g, 0, none⟩) 128 c, .slice sa sn sc], .func (.func 110) #[] #[.pointer (some ⟨B, 0, none⟩)], .int .i64 (k : Nat), .agg #[.int .i64 (f : Nat), .int .i64 (t : Nat)], undef, .func (.func 55) #[] #[], .pointer (some ⟨g2, 0, none⟩), .slice (some ⟨g, 0, none⟩) 128 c, .pointer (some ⟨s0, 0, none⟩), undef, undef, undef, undef, undef, undef, undef, undef], defers := [] } V.drew
    refine wpAnyH_take (i := 5) (v := .int .i64 (f : Int)) rfl (by kernel_rfl) (by kernel_rfl) (by kernel_rfl) (fun _ _ _ h => h) (Or.inl ⟨by rfl, fun Z hZ => ?_⟩) (HSZ.out _ U0.out) ?_
    · obtain ⟨k0, k1, k2, k3⟩ := hZ
      go_simp
    change wpAnyH _ _ _ _ _ 8 #[false, true, true, true, true, true, false, false, false, false, false, false, false] { tmps := #[.agg #[.slice (some ⟨g, 0, none⟩) 128 c, .slice sa sn sc], .func (.func 55) #[] #[], .pointer (some ⟨g2, 0, none⟩), .pointer (some ⟨g3, 0, none⟩), .slice none 0 0, .pointer (some ⟨g5, 0, none⟩), undef, .pointer (some ⟨s0, 0, none⟩), .agg #[.slice (some ⟨g, 0, none⟩) 128 c, .slice sa sn sc], .func (.func 110) #[] #[.pointer (some ⟨B, 0, none⟩)], .int .i64 (k : Nat), .agg #[.int .i64 (f : Nat), .int .i64 (t : Nat)], undef, .func (.func 55) #[] #[], .pointer (some ⟨g2, 0, none⟩), .slice (some ⟨g, 0, none⟩) 128 c, .pointer (some ⟨s0, 0, none⟩), .int .i64 (f : Int), undef, undef, undef, undef, undef, undef, undef], defers := [] } V.drew
    refine wpAnyH_take (i := 6) (v := .pointer (some ⟨s0, 1, none⟩)) rfl (by kernel_rfl) (by kernel_rfl) (by kernel_rfl) (fun _ _ _ h => h) (Or.inl ⟨by rfl, fun Z hZ => ?_⟩) (HSZ.out _ U0.out) ?_
    · obtain ⟨k0, k1, k2, k3⟩ := hZ
      go_simp
    change wpAnyH _ _ _ _ _ 7 #[false, true, true, true, true, true, true, false, false, false, false, false, false] { tmps := #[.agg #[.slice (some ⟨g, 0, none⟩) 128 c, .slice sa sn sc], .func (.func 55) #[] #[], .pointer (some ⟨g2, 0, none⟩), .pointer (some ⟨g3, 0, none⟩), .slice none 0 0, .pointer (some ⟨g5, 0, none⟩), undef, .pointer (some ⟨s0, 0, none⟩), .agg #[.slice (some ⟨g, 0, none⟩) 128 c, .slice sa sn sc], .func (.func 110) #[] #[.pointer (some ⟨B, 0, none⟩)], .int .i64 (k : Nat), .agg #[.int .i64 (f : Nat), .int .i64 (t : Nat)], undef, .func (.func 55) #[] #[], .pointer (some ⟨g2, 0, none⟩), .slice (some ⟨g, 0, none⟩) 128 c, .pointer (some ⟨s0, 0, none⟩), .int .i64 (f : Int), .pointer (some ⟨s0, 1, none⟩), undef, undef, undef, undef, undef, undef], defers := [] } V.drew
    refine wpAnyH_take (i := 7) (v := .int .i64 (t : Int)) rfl (by kernel_rfl) (by kernel_rfl) (by kernel_rfl) (fun _ _ _ h => h) (Or.inl ⟨by rfl, fun Z hZ => ?_⟩) (HSZ.out _ U0.out) ?_
    · obtain ⟨k0, k1, k2, k3⟩ := hZ
      go_simp
    change wpAnyH _ _ _ _ _ 6 #[false, true, true, true, true, true, true, true, false, false, false, false, false] { tmps := #[.agg #[.slice (some ⟨g, 0, none⟩) 128 c, .slice sa sn sc], .func (.func 55) #[] #[], .pointer (some ⟨g2, 0, none⟩), .pointer (some ⟨g3, 0, none⟩), .slice none 0 0, .pointer (some ⟨g5, 0, none⟩), undef, .pointer (some ⟨s0, 0, none⟩), .agg #[.slice (some ⟨g, 0, none⟩) 128 c, .slice sa sn sc], .func (.func 110) #[] #[.pointer (some ⟨B, 0, none⟩)], .int .i64 (k : Nat), .agg #[.int .i64 (f : Nat), .int .i64 (t : Nat)], undef, .func (.func 55) #[] #[], .pointer (some ⟨g2, 0, none⟩), .slice (some ⟨g, 0, none⟩) 128 c, .pointer (some ⟨s0, 0, none⟩), .int .i64 (f : Int), .pointer (some ⟨s0, 1, none⟩), .int .i64 (t : Int), undef, undef, undef, undef, undef], defers := [] } V.drew
    refine wpAnyH_take (i := 8) (v := .slice (some ⟨g, f * 2, none⟩) x (c - f)) rfl (by kernel_rfl) (by kernel_rfl) (by kernel_rfl) (fun _ _ _ h => h) (Or.inl ⟨by rfl, fun Z hZ => ?_⟩) (HSZ.out _ U0.out) ?_
    · obtain ⟨k0, k1, k2, k3⟩ := hZ
      go_simp
    change wpAnyH _ _ _ _ _ 5 #[false, true, true, true, true, true, true, true, true, false, false, false, false] { tmps := #[.agg #[.slice (some ⟨g, 0, none⟩) 128 c, .slice sa sn sc], .func (.func 55) #[] #[], .pointer (some ⟨g2, 0, none⟩), .pointer (some ⟨g3, 0, none⟩), .slice none 0 0, .pointer (some ⟨g5, 0, none⟩), undef, .pointer (some ⟨s0, 0, none⟩), .agg #[.slice (some ⟨g, 0, none⟩) 128 c, .slice sa sn sc], .func (.func 110) #[] #[.pointer (some ⟨B, 0, none⟩)], .int .i64 (k : Nat), .agg #[.int .i64 (f : Nat), .int .i64 (t : Nat)], undef, .func (.func 55) #[] #[], .pointer (some ⟨g2, 0, none⟩), .slice (some ⟨g, 0, none⟩) 128 c, .pointer (some ⟨s0, 0, none⟩), .int .i64 (f : Int), .pointer (some ⟨s0, 1, none⟩), .int .i64 (t : Int), .slice (some ⟨g, f * 2, none⟩) x (c - f), undef, undef, undef, undef], defers := [] } V.drew
    refine wpAnyH_ready (rs := [0, 9]) (by kernel_rfl) (by simp) ?_
    refine AllReadyH.cons rfl (fun K hK => ?_) ?_
    · have d5 := blk_cell (U0.out.heap HBv.out (noB _)) 0
      go_simp
      refine hK.out _ _ (HSZ.out _ U0.out) (fun _ => ?_)
      clear d5
      change wpAnyH _ _ _ _ _ 4 #[true, true, true, true, true, true, true, true, true, false, false, false, false] { tmps := #[.agg #[.slice (some ⟨g, 0, none⟩) 128 c, .slice sa sn sc], .func (.func 55) #[] #[], .pointer (some ⟨g2, 0, none⟩), .pointer (some ⟨g3, 0, none⟩), .slice none 0 0, .pointer (some ⟨g5, 0, none⟩), undef, .pointer (some ⟨s0, 0, none⟩), .agg #[.slice (some ⟨g, 0, none⟩) 128 c, .slice sa sn sc], .func (.func 110) #[] #[.pointer (some ⟨B, 0, none⟩)], .int .i64 (k : Nat), .agg #[.int .i64 (f : Nat), .int .i64 (t : Nat)], .slice va k vc, .func (.func 55) #[] #[], .pointer (some ⟨g2, 0, none⟩), .slice (some ⟨g, 0, none⟩) 128 c, .pointer (some ⟨s0, 0, none⟩), .int .i64 (f : Int), .pointer (some ⟨s0, 1, none⟩), .int .i64 (t : Int), .slice (some ⟨g, f * 2, none⟩) x (c - f), undef, undef, undef, undef], defers := [] } V.drew
      refine wpAnyH_ready (rs := [9]) (by kernel_rfl) (by simp) ?_
      refine AllReadyH.cons rfl (fun K hK => ?_) ?_
      · go_simp
        refine (HCl.out _ U0.out).mono ?_
        rintro e w4 ⟨rfl, u4'⟩
        have U4 := Lib.hid (U0.out.then u4')
        clear u4'
        refine hK.out _ _ (HSZ.out _ U4.out) (fun _ => ?_)
        change wpAnyH _ _ _ _ _ 3 #[true, true, true, true, true, true, true, true, true, true, false, false, false] { tmps := #[.agg #[.slice (some ⟨g, 0, none⟩) 128 c, .slice sa sn sc], .func (.func 55) #[] #[], .pointer (some ⟨g2, 0, none⟩), .pointer (some ⟨g3, 0, none⟩), .slice none 0 0, .pointer (some ⟨g5, 0, none⟩), undef, .pointer (some ⟨s0, 0, none⟩), .agg #[.slice (some ⟨g, 0, none⟩) 128 c, .slice sa sn sc], .func (.func 110) #[] #[.pointer (some ⟨B, 0, none⟩)], .int .i64 (k : Nat), .agg #[.int .i64 (f : Nat), .int .i64 (t : Nat)], .slice va k vc, .func (.func 55) #[] #[], .pointer (some ⟨g2, 0, none⟩), .slice (some ⟨g, 0, none⟩) 128 c, .pointer (some ⟨s0, 0, none⟩), .int .i64 (f : Int), .pointer (some ⟨s0, 1, none⟩), .int .i64 (t : Int), .slice (some ⟨g, f * 2, none⟩) x (c - f), .int .i64 q, undef, undef, undef], defers := [] } w4
        refine wpAnyH_ready (rs := [10]) (by kernel_rfl) (by simp) ?_
        refine AllReadyH.cons rfl (fun K hK => ?_) ?_
        · go_simp
          refine hK.out _ _ (HSZ.out _ (U4.out.alloc _)) (fun _ => ?_)
          change wpAnyH _ _ _ _ _ 2 #[true, true, true, true, true, true, true, true, true, true, true, false, false] { tmps := #[.agg #[.slice (some ⟨g, 0, none⟩) 128 c, .slice sa sn sc], .func (.func 55) #[] #[], .pointer (some ⟨g2, 0, none⟩), .pointer (some ⟨g3, 0, none⟩), .slice none 0 0, .pointer (some ⟨g5, 0, none⟩), undef, .pointer (some ⟨s0, 0, none⟩), .agg #[.slice (some ⟨g, 0, none⟩) 128 c, .slice sa sn sc], .func (.func 110) #[] #[.pointer (some ⟨B, 0, none⟩)], .int .i64 (k : Nat), .agg #[.int .i64 (f : Nat), .int .i64 (t : Nat)], .slice va k vc, .func (.func 55) #[] #[], .pointer (some ⟨g2, 0, none⟩), .slice (some ⟨g, 0, none⟩) 128 c, .pointer (some ⟨s0, 0, none⟩), .int .i64 (f : Int), .pointer (some ⟨s0, 1, none⟩), .int .i64 (t : Int), .slice (some ⟨g, f * 2, none⟩) x (c - f), .int .i64 q, .slice (some ⟨w4.heap.size, 0, none⟩) 1 1, undef, undef], defers := [] } (w4.alloc (.cells #[.int .i64 q] 3))
          refine wpAnyH_ready (rs := [11]) (by kernel_rfl) (by simp) ?_
          refine AllReadyH.cons rfl (fun K hK => ?_) ?_
          · refine step_append_lies _ (by rfl) _ _ _ (by rfl) (W.heap.size + 2) 3 i0 (.int .i64 0) 1 8 Try.underlying22 hii hz0 hz1 hz2 (by rfl) (by decide) _ k (i64s xs) (by rfl) (by exact (U4.out.alloc _).row HR.out (fun q _ => noB q)) ⟨w4.heap.size, 0, none⟩ 1 1 [.int .i64 q] (by rfl) (by rfl) (by exact World.news_of_block (heap_alloc_new w4 _)) (by intro q hq; rw [List.mem_singleton] at hq; subst hq; rfl) (by decide) C3.out C4.out (by exact Nat.le_trans HVs.out (U4.out.alloc _).size) _ (by rfl) ?_
            intro g6 c6 w6 hown6 hg6 hat6 hlt6
            have HX := Lib.hid (HEnd.out w4 w6 g6 c6 U4.out hown6 hg6)
            clear hown6 hg6 hat6 hlt6
            refine hK.out _ _ HX.out.2.1 (fun _ => ?_)
            change wpAnyH _ _ _ _ _ 1 #[true, true, true, true, true, true, true, true, true, true, true, true, false] { tmps := #[.agg #[.slice (some ⟨g, 0, none⟩) 128 c, .slice sa sn sc], .func (.func 55) #[] #[], .pointer (some ⟨g2, 0, none⟩), .pointer (some ⟨g3, 0, none⟩), .slice none 0 0, .pointer (some ⟨g5, 0, none⟩), undef, .pointer (some ⟨s0, 0, none⟩), .agg #[.slice (some ⟨g, 0, none⟩) 128 c, .slice sa sn sc], .func (.func 110) #[] #[.pointer (some ⟨B, 0, none⟩)], .int .i64 (k : Nat), .agg #[.int .i64 (f : Nat), .int .i64 (t : Nat)], .slice va k vc, .func (.func 55) #[] #[], .pointer (some ⟨g2, 0, none⟩), .slice (some ⟨g, 0, none⟩) 128 c, .pointer (some ⟨s0, 0, none⟩), .int .i64 (f : Int), .pointer (some ⟨s0, 1, none⟩), .int .i64 (t : Int), .slice (some ⟨g, f * 2, none⟩) x (c - f), .int .i64 q, .slice (some ⟨w4.heap.size, 0, none⟩) 1 1, .slice (some ⟨g6, 0, none⟩) (k + 1) c6, undef], defers := [] } w6
            refine wpAnyH_ready (rs := [12]) (by kernel_rfl) (by simp) ?_
            refine AllReadyH.cons rfl (fun K hK => ?_) ?_
            · have m0 := blk_cell HX.out.1 0
              have mf := blk_free HX.out.1 0
              go_simp
              refine hK.out _ _ HX.out.2.2.1 (fun _ => ?_)
              exact wpAnyH_done (by kernel_rfl) HX.out.2.2.2 _
            exact AllReadyH.nil
          exact AllReadyH.nil
        exact AllReadyH.nil
      exact AllReadyH.nil
    refine AllReadyH.cons rfl (fun K hK => ?_) ?_
    · go_simp
      refine (HCl.out _ U0.out).mono ?_
      rintro e w4 ⟨rfl, u4'⟩
      have U4 := Lib.hid (U0.out.then u4')
      clear u4'
      refine hK.out _ _ (HSZ.out _ U4.out) (fun _ => ?_)
      change wpAnyH _ _ _ _ _ 4 #[false, true, true, true, true, true, true, true, true, true, false, false, false] { tmps := #[.agg #[.slice (some ⟨g, 0, none⟩) 128 c, .slice sa sn sc], .func (.func 55) #[] #[], .pointer (some ⟨g2, 0, none⟩), .pointer (some ⟨g3, 0, none⟩), .slice none 0 0, .pointer (some ⟨g5, 0, none⟩), undef, .pointer (some ⟨s0, 0, none⟩), .agg #[.slice (some ⟨g, 0, none⟩) 128 c, .slice sa sn sc], .func (.func 110) #[] #[.pointer (some ⟨B, 0, none⟩)], .int .i64 (k : Nat), .agg #[.int .i64 (f : Nat), .int .i64 (t : Nat)], undef, .func (.func 55) #[] #[], .pointer (some ⟨g2, 0, none⟩), .slice (some ⟨g, 0, none⟩) 128 c, .pointer (some ⟨s0, 0, none⟩), .int .i64 (f : Int), .pointer (some ⟨s0, 1, none⟩), .int .i64 (t : Int), .slice (some ⟨g, f * 2, none⟩) x (c - f), .int .i64 q, undef, undef, undef], defers := [] } w4
      refine wpAnyH_ready (rs := [0, 10]) (by kernel_rfl) (by simp) ?_
      refine AllReadyH.cons rfl (fun K hK => ?_) ?_
      · have d5 := blk_cell (U4.out.heap HBv.out (noB _)) 0
        go_simp
        refine hK.out _ _ (HSZ.out _ U4.out) (fun _ => ?_)
        clear d5
        change wpAnyH _ _ _ _ _ 3 #[true, true, true, true, true, true, true, true, true, true, false, false, false] { tmps := #[.agg #[.slice (some ⟨g, 0, none⟩) 128 c, .slice sa sn sc], .func (.func 55) #[] #[], .pointer (some ⟨g2, 0, none⟩), .pointer (some ⟨g3, 0, none⟩), .slice none 0 0, .pointer (some ⟨g5, 0, none⟩), undef, .pointer (some ⟨s0, 0, none⟩), .agg #[.slice (some ⟨g, 0, none⟩) 128 c, .slice sa sn sc], .func (.func 110) #[] #[.pointer (some ⟨B, 0, none⟩)], .int .i64 (k : Nat), .agg #[.int .i64 (f : Nat), .int .i64 (t : Nat)], .slice va k vc, .func (.func 55) #[] #[], .pointer (some ⟨g2, 0, none⟩), .slice (some ⟨g, 0, none⟩) 128 c, .pointer (some ⟨s0, 0, none⟩), .int .i64 (f : Int), .pointer (some ⟨s0, 1, none⟩), .int .i64 (t : Int), .slice (some ⟨g, f * 2, none⟩) x (c - f), .int .i64 q, undef, undef, undef], defers := [] } w4
        refine wpAnyH_ready (rs := [10]) (by kernel_rfl) (by simp) ?_
        refine AllReadyH.cons rfl (fun K hK => ?_) ?_
        · go_simp
          refine hK.out _ _ (HSZ.out _ (U4.out.alloc _)) (fun _ => ?_)
          change wpAnyH _ _ _ _ _ 2 #[true, true, true, true, true, true, true, true, true, true, true, false, false] { tmps := #[.agg #[.slice (some ⟨g, 0, none⟩) 128 c, .slice sa sn sc], .func (.func 55) #[] #[], .pointer (some ⟨g2, 0, none⟩), .pointer (some ⟨g3, 0, none⟩), .slice none 0 0, .pointer (some ⟨g5, 0, none⟩), undef, .pointer (some ⟨s0, 0, none⟩), .agg #[.slice (some ⟨g, 0, none⟩) 128 c, .slice sa sn sc], .func (.func 110) #[] #[.pointer (some ⟨B, 0, none⟩)], .int .i64 (k : Nat), .agg #[.int .i64 (f : Nat), .int .i64 (t : Nat)], .slice va k vc, .func (.func 55) #[] #[], .pointer (some ⟨g2, 0, none⟩), .slice (some ⟨g, 0, none⟩) 128 c, .pointer (some ⟨s0, 0, none⟩), .int .i64 (f : Int), .pointer (some ⟨s0, 1, none⟩), .int .i64 (t : Int), .slice (some ⟨g, f * 2, none⟩) x (c - f), .int .i64 q, .slice (some ⟨w4.heap.size, 0, none⟩) 1 1, undef, undef], defers := [] } (w4.alloc (.cells #[.int .i64 q] 3))
          refine wpAnyH_ready (rs := [11]) (by kernel_rfl) (by simp) ?_
          refine AllReadyH.cons rfl (fun K hK => ?_) ?_
          · refine step_append_lies _ (by rfl) _ _ _ (by rfl) (W.heap.size + 2) 3 i0 (.int .i64 0) 1 8 Try.underlying22 hii hz0 hz1 hz2 (by rfl) (by decide) _ k (i64s xs) (by rfl) (by exact (U4.out.alloc _).row HR.out (fun q _ => noB q)) ⟨w4.heap.size, 0, none⟩ 1 1 [.int .i64 q] (by rfl) (by rfl) (by exact World.news_of_block (heap_alloc_new w4 _)) (by intro q hq; rw [List.mem_singleton] at hq; subst hq; rfl) (by decide) C3.out C4.out (by exact Nat.le_trans HVs.out (U4.out.alloc _).size) _ (by rfl) ?_
            intro g6 c6 w6 hown6 hg6 hat6 hlt6
            have HX := Lib.hid (HEnd.out w4 w6 g6 c6 U4.out hown6 hg6)
            clear hown6 hg6 hat6 hlt6
            refine hK.out _ _ HX.out.2.1 (fun _ => ?_)
            change wpAnyH _ _ _ _ _ 1 #[true, true, true, true, true, true, true, true, true, true, true, true, false] { tmps := #[.agg #[.slice (some ⟨g, 0, none⟩) 128 c, .slice sa sn sc], .func (.func 55) #[] #[], .pointer (some ⟨g2, 0, none⟩), .pointer (some ⟨g3, 0, none⟩), .slice none 0 0, .pointer (some ⟨g5, 0, none⟩), undef, .pointer (some ⟨s0, 0, none⟩), .agg #[.slice (some ⟨g, 0, none⟩) 128 c, .slice sa sn sc], .func (.func 110) #[] #[.pointer (some ⟨B, 0, none⟩)], .int .i64 (k : Nat), .agg #[.int .i64 (f : Nat), .int .i64 (t : Nat)], .slice va k vc, .func (.func 55) #[] #[], .pointer (some ⟨g2, 0, none⟩), .slice (some ⟨g, 0, none⟩) 128 c, .pointer (some ⟨s0, 0, none⟩), .int .i64 (f : Int), .pointer (some ⟨s0, 1, none⟩), .int .i64 (t : Int), .slice (some ⟨g, f * 2, none⟩) x (c - f), .int .i64 q, .slice (some ⟨w4.heap.size, 0, none⟩) 1 1, .slice (some ⟨g6, 0, none⟩) (k + 1) c6, undef], defers := [] } w6
            refine wpAnyH_ready (rs := [12]) (by kernel_rfl) (by simp) ?_
            refine AllReadyH.cons rfl (fun K hK => ?_) ?_
            · have m0 := blk_cell HX.out.1 0
              have mf := blk_free HX.out.1 0
              go_simp
              refine hK.out _ _ HX.out.2.2.1 (fun _ => ?_)
              exact wpAnyH_done (by kernel_rfl) HX.out.2.2.2 _
            exact AllReadyH.nil
          exact AllReadyH.nil
        exact AllReadyH.nil
      refine AllReadyH.cons rfl (fun K hK => ?_) ?_
      · go_simp
        refine hK.out _ _ (HSZ.out _ (U4.out.alloc _)) (fun _ => ?_)
        change wpAnyH _ _ _ _ _ 3 #[false, true, true, true, true, true, true, true, true, true, true, false, false] { tmps := #[.agg #[.slice (some ⟨g, 0, none⟩) 128 c, .slice sa sn sc], .func (.func 55) #[] #[], .pointer (some ⟨g2, 0, none⟩), .pointer (some ⟨g3, 0, none⟩), .slice none 0 0, .pointer (some ⟨g5, 0, none⟩), undef, .pointer (some ⟨s0, 0, none⟩), .agg #[.slice (some ⟨g, 0, none⟩) 128 c, .slice sa sn sc], .func (.func 110) #[] #[.pointer (some ⟨B, 0, none⟩)], .int .i64 (k : Nat), .agg #[.int .i64 (f : Nat), .int .i64 (t : Nat)], undef, .func (.func 55) #[] #[], .pointer (some ⟨g2, 0, none⟩), .slice (some ⟨g, 0, none⟩) 128 c, .pointer (some ⟨s0, 0, none⟩), .int .i64 (f : Int), .pointer (some ⟨s0, 1, none⟩), .int .i64 (t : Int), .slice (some ⟨g, f * 2, none⟩) x (c - f), .int .i64 q, .slice (some ⟨w4.heap.size, 0, none⟩) 1 1, undef, undef], defers := [] } (w4.alloc (.cells #[.int .i64 q] 3))
        refine wpAnyH_ready (rs := [0]) (by kernel_rfl) (by simp) ?_
        refine AllReadyH.cons rfl (fun K hK => ?_) ?_
        · have d5 := blk_cell ((U4.out.alloc (.cells #[.int .i64 q] 3)).heap HBv.out (noB _)) 0
          go_simp
          refine hK.out _ _ (HSZ.out _ (U4.out.alloc _)) (fun _ => ?_)
          clear d5
          change wpAnyH _ _ _ _ _ 2 #[true, true, true, true, true, true, true, true, true, true, true, false, false] { tmps := #[.agg #[.slice (some ⟨g, 0, none⟩) 128 c, .slice sa sn sc], .func (.func 55) #[] #[], .pointer (some ⟨g2, 0, none⟩), .pointer (some ⟨g3, 0, none⟩), .slice none 0 0, .pointer (some ⟨g5, 0, none⟩), undef, .pointer (some ⟨s0, 0, none⟩), .agg #[.slice (some ⟨g, 0, none⟩) 128 c, .slice sa sn sc], .func (.func 110) #[] #[.pointer (some ⟨B, 0, none⟩)], .int .i64 (k : Nat), .agg #[.int .i64 (f : Nat), .int .i64 (t : Nat)], .slice va k vc, .func (.func 55) #[] #[], .pointer (some ⟨g2, 0, none⟩), .slice (some ⟨g, 0, none⟩) 128 c, .pointer (some ⟨s0, 0, none⟩), .int .i64 (f : Int), .pointer (some ⟨s0, 1, none⟩), .int .i64 (t : Int), .slice (some ⟨g, f * 2, none⟩) x (c - f), .int .i64 q, .slice (some ⟨w4.heap.size, 0, none⟩) 1 1, undef, undef], defers := [] } (w4.alloc (.cells #[.int .i64 q] 3))
          refine wpAnyH_ready (rs := [11]) (by kernel_rfl) (by simp) ?_
          refine AllReadyH.cons rfl (fun K hK => ?_) ?_
          · refine step_append_lies _ (by rfl) _ _ _ (by rfl) (W.heap.size + 2) 3 i0 (.int .i64 0) 1 8 Try.underlying22 hii hz0 hz1 hz2 (by rfl) (by decide) _ k (i64s xs) (by rfl) (by exact (U4.out.alloc _).row HR.out (fun q _ => noB q)) ⟨w4.heap.size, 0, none⟩ 1 1 [.int .i64 q] (by rfl) (by rfl) (by exact World.news_of_block (heap_alloc_new w4 _)) (by intro q hq; rw [List.mem_singleton] at hq; subst hq; rfl) (by decide) C3.out C4.out (by exact Nat.le_trans HVs.out (U4.out.alloc _).size) _ (by rfl) ?_
            intro g6 c6 w6 hown6 hg6 hat6 hlt6
            have HX := Lib.hid (HEnd.out w4 w6 g6 c6 U4.out hown6 hg6)
            clear hown6 hg6 hat6 hlt6
            refine hK.out _ _ HX.out.2.1 (fun _ => ?_)
            change wpAnyH _ _ _ _ _ 1 #[true, true, true, true, true, true, true, true, true, true, true, true, false] { tmps := #[.agg #[.slice (some ⟨g, 0, none⟩) 128 c, .slice sa sn sc], .func (.func 55) #[] #[], .pointer (some ⟨g2, 0, none⟩), .pointer (some ⟨g3, 0, none⟩), .slice none 0 0, .pointer (some ⟨g5, 0, none⟩), undef, .pointer (some ⟨s0, 0, none⟩), .agg #[.slice (some ⟨g, 0, none⟩) 128 c, .slice sa sn sc], .func (.func 110) #[] #[.pointer (some ⟨B, 0, none⟩)], .int .i64 (k : Nat), .agg #[.int .i64 (f : Nat), .int .i64 (t : Nat)], .slice va k vc, .func (.func 55) #[] #[], .pointer (some ⟨g2, 0, none⟩), .slice (some ⟨g, 0, none⟩) 128 c, .pointer (some ⟨s0, 0, none⟩), .int .i64 (f : Int), .pointer (some ⟨s0, 1, none⟩), .int .i64 (t : Int), .slice (some ⟨g, f * 2, none⟩) x (c - f), .int .i64 q, .slice (some ⟨w4.heap.size, 0, none⟩) 1 1, .slice (some ⟨g6, 0, none⟩) (k + 1) c6, undef], defers := [] } w6
            refine wpAnyH_ready (rs := [12]) (by kernel_rfl) (by simp) ?_
            refine AllReadyH.cons rfl (fun K hK => ?_) ?_
            · have m0 := blk_cell HX.out.1 0
              have mf := blk_free HX.out.1 0
              go_simp
              refine hK.out _ _ HX.out.2.2.1 (fun _ => ?_)
              exact wpAnyH_done (by kernel_rfl) HX.out.2.2.2 _
            exact AllReadyH.nil
          exact AllReadyH.nil
        exact AllReadyH.nil
      exact AllReadyH.nil
    exact AllReadyH.nil
  case done =>
    rintro D V hD ⟨⟨v, hb, hrow⟩, hu⟩ hK
    obtain ⟨va, vc, rfl⟩ := row_form hrow
    have d0 := blk_cell hb 0
    have HR := Lib.hid hrow; have HUv := Lib.hid hu; have HKd := Lib.hid hK; have HDl := Lib.hid hD
    clear hb hrow hu hK
    go_wp2
    refine ⟨by simp, .inl ⟨_, _, rfl, run_takeDeferred HKd.out, ?_⟩⟩
    refine ⟨_, results_tmp rfl _ _ _, _, rfl, ?_, ?_⟩
    · rw [HLn.out]
      have := HSz.out
      have := HG2.out
      have := HG3.out
      have := HG5.out
      exact row_base (srow_grown HR.out (grownBy_putObj' _ _ _) (fun r e => by cases e; exact .inr ⟨_, HKd.out, rfl⟩)) (by omega)
    · have hall : Upd (fun j => w.heap.size ≤ j) w (V.putObj D (.deferred none)) :=
        ((HU.out.mono (T := fun j => w.heap.size ≤ j) (fun _ _ h => h.elim)).trans HUv.out (fun k _ h => by have := HG2.out; have := HG3.out; have := HG5.out; omega)).grown (grownBy_putObj' _ _ _) (fun k e hlt => by cases e; have := HDl.out; have := HU.out.size; omega)
      exact hall.mono (fun k hk h => by omega)

set_option maxRecDepth 100000 in
set_option maxHeartbeats 8000000 in
theorem toldG_any (g c : Nat) (sw : Value) (ws : List Int) (p : Nat → Int × Int) (w : World) (hw : isW ws = true) (hi : Ints w sw ws) (hp : PrsA w g 0 p 128) (hc : 128 ≤ c) (hpi : ∀ i, InP 2097152 (p i)) :
    Calls Try.prog 50 #[.agg #[.slice (some ⟨g, 0, none⟩) 128 c, sw], .func (.func 51) #[] #[]] w (IRes w ((List.range ws.length).map fun k => gnF (fun t => p (psN ws k + t)) (wdN ws k))) := by
  obtain ⟨W0, hW0⟩ : ∃ W, W = ((w.alloc (.cells #[.slice (some ⟨g, 0, none⟩) 128 c, sw] 51)).alloc (.cells #[.func (.func 51) #[] #[]] 55)).alloc (.cells #[.slice none 0 0] 22) := ⟨_, rfl⟩
  obtain ⟨b0, b1, b2, hu0⟩ := boxes3 w (.cells #[.slice (some ⟨g, 0, none⟩) 128 c, sw] 51) (.cells #[.func (.func 51) #[] #[]] 55) (.cells #[.slice none 0 0] 22)
  have hsz0 := boxes3' w (.cells #[.slice (some ⟨g, 0, none⟩) 128 c, sw] 51) (.cells #[.func (.func 51) #[] #[]] 55) (.cells #[.slice none 0 0] 22)
  rw [← hW0] at b0 b1 b2 hu0 hsz0
  obtain ⟨W, hW⟩ : ∃ W, W = W0.alloc (.cells #[.slice (some ⟨g, 0, none⟩) 128 c, sw] 51) := ⟨_, rfl⟩
  have b3 : W.heap[W0.heap.size]? = some (.cells #[.slice (some ⟨g, 0, none⟩) 128 c, sw] 51 (0, 0)) := by rw [hW]; exact heap_alloc_new W0 _
  have u3 : Upd NoB W0 W := by rw [hW]; exact (Upd.refl _ _).alloc _
  have hu := hu0.then u3
  have HSq := Lib.hid (bands1_seq W0.heap.size 1 _ sw ws W hw (hi.later hu) b3)
  have hne : ws ≠ [] := by
    rintro rfl
    have := (isW_ok hw).2.1
    simp at this
  have hD : ∀ j, bandD W0.heap.size sw j → j < W.heap.size ∧ j ≠ w.heap.size + 1 + 1 := fun j hj => by
    rcases hj with rfl | hj
    · exact ⟨lt_of_block b3, by omega⟩
    · have := hi.lt hne j hj
      have := hu.size
      omega
  have HD := Lib.hid hD
  have HP := Lib.hid (hp.later hu); have HPi := Lib.hid hpi
  have HWg := Lib.hid (fun k hk => isW_get hw (k := k) hk)
  have HB0 := Lib.hid (u3.heap b0 (noB _)); have HB1 := Lib.hid (u3.heap b1 (noB _)); have HB2 := Lib.hid (u3.heap b2 (noB _)); have HU := Lib.hid hu
  have HgW := Lib.hid (show g < w.heap.size from (by have := World.block_lt_of_cell? w _ (hp 0 (by decide)).1; exact this))
  have HSz := Lib.hid (show w.heap.size + 1 + 1 + 1 < W.heap.size from by have := lt_of_block b3; omega)
  have HWd := Lib.hid (fun k x (hx : ws[k]? = some ((x : Nat) : Int)) => (show wdN ws k = x by unfold wdN; rw [List.getD_eq_getElem?_getD, hx]; exact Int.toNat_natCast x))
  have HLn := Lib.hid (show ((List.range ws.length).map fun k => gnF (fun t => p (psN ws k + t)) (wdN ws k)).length = ws.length from rmap_len _ _)
  have HSc := Lib.hid (fun k => rmap_succ (fun k => gnF (fun t => p (psN ws k + t)) (wdN ws k)) k)
  have hN8 := (isW_ok hw).1
  have HW := Lib.hid hW; have HW0 := Lib.hid hW0
  have HB := Lib.hid (show W0.heap.size = w.heap.size + 1 + 1 + 1 from hsz0)
  obtain ⟨sa, sn, sc, rfl⟩ : ∃ a n c, sw = .slice a n c := by obtain ⟨a, c, e⟩ := hi.form; exact ⟨a, _, c, e⟩
  have c0 := cell_of_block0 b0
  have c1 := cell_of_block1 b0
  obtain ⟨i0, hii, hz0, hz1, hz2⟩ := info_parts Try.infoInt
  clear hp hi hw hW hW0 b0 b1 b2 b3 hu0 u3 hu hD hpi hsz0 hne
  refine (callsIn_wide (n := 2)).1 ?_
  refine callsIn_of_wp_marks Try.func50 rfl trivial (wpIn_wide.2 ?_) rfl
  simp only [Try.ntmps50, List.size_toArray, List.length_cons, List.length_nil, Nat.reduceAdd, Nat.reduceSub, Array.replicate_succ, Array.replicate_zero, List.push_toArray, List.append_toArray, List.nil_append, List.cons_append]
  go_wp2_with fail
  rw [← HW0.out]
  refine (bands_any _ _ W0).mono ?_
  rintro e w2 ⟨rfl, rfl⟩
  rw [← HW.out]
  obtain ⟨B, hB⟩ : ∃ B, W0.heap.size = B := ⟨_, rfl⟩
  rw [hB] at HSq HD HB ⊢
  obtain ⟨g2, hg2⟩ : ∃ B, w.heap.size = B := ⟨_, rfl⟩
  have HG2 := Lib.hid hg2
  rw [hg2] at HD HB0 HB1 HB2 HgW HSz HB c0 c1 ⊢
  obtain ⟨g3, hg3⟩ : ∃ B, g2 + 1 = B := ⟨_, rfl⟩
  rw [hg3] at HD HB1 HB2 HSz HB ⊢
  obtain ⟨g5, hg5⟩ : ∃ B, g3 + 1 = B := ⟨_, rfl⟩
  rw [hg5] at HD HB2 HSz HB ⊢
  have HG3 := Lib.hid hg3; have HG5 := Lib.hid hg5
  clear hB hg2 hg3 hg5 c0 c1
  go_wp2_with fail
  refine (wpIn_wide (n := 2)).1 (wpIn_rangeN rfl (by omega) (gf := 110) (lb := #[.pointer (some ⟨B, 0, none⟩)]) rfl trivial (enters_of Try.func110 (by kernel_rfl) rfl) HSq.out (fun h k => ⟨h.1.trans k.1, Nat.le_trans h.2 k.2⟩) (fun W' l o' hl => ⟨keepD_putObj (fun hd => by have := (HD.out _ hd).1; omega), (grownBy_putObj' W' l o').size⟩) (Below.refl _ _) (fun _ => rfl)
    (fun k W' => (∃ v, W'.heap[g5]? = some (.cells #[v] 22 (0, 0)) ∧ W'.ownsRow (W.heap.size + 2) 3 1 v k (i64s ((List.range k).map fun k => gnF (fun t => p (psN ws k + t)) (wdN ws k)))) ∧ Upd (fun j => j = g5) W W')
    ?hI ⟨⟨_, HB2.out, World.ownsRow_nil _ _ _ _⟩, Upd.refl _ _⟩
    (fun k a' W' => ∃ s0, W.heap.size ≤ s0 ∧ W'.heap[s0]? = some (.cells #[.int .i64 (psN ws k : Nat), .int .i64 (psN ws (k + 1) : Nat)] 90 (0, 0)) ∧ a' = { tmps := #[.agg #[.slice (some ⟨g, 0, none⟩) 128 c, .slice sa sn sc], .func (.func 51) #[] #[], .pointer (some ⟨g2, 0, none⟩), .pointer (some ⟨g3, 0, none⟩), .slice none 0 0, .pointer (some ⟨g5, 0, none⟩), undef, .pointer (some ⟨s0, 0, none⟩), .agg #[.slice (some ⟨g, 0, none⟩) 128 c, .slice sa sn sc], .func (.func 110) #[] #[.pointer (some ⟨B, 0, none⟩)], .int .i64 (k : Nat), .agg #[.int .i64 (psN ws k : Nat), .int .i64 (psN ws (k + 1) : Nat)], undef, undef, undef, undef, undef, undef, undef, undef, undef, undef, undef, undef, undef], defers := [] }) ?hAx ?assign ?body ?done)
  case hI =>
    rintro s A B' row ⟨⟨v, h1, h3⟩, h4⟩ hg hr
    refine ⟨⟨v, (hg.block _ (lt_of_block h1) (fun e => ?_)).trans h1, srow_grown h3 hg (fun r e => ?_)⟩, h4.grown hg (fun k e hk => ?_)⟩
    · have := (hr _ e.symm).1; have := HSz.out; omega
    · exact (hr r e).2.imp (fun h => by omega) id
    · have := (hr k e).1; have := HSz.out; omega
  case hAx =>
    rintro x a' _ A A' row ⟨s0, h0, h1, h2⟩ hg hr
    refine ⟨s0, h0, (hg.block _ (lt_of_block h1) (fun e => ?_)).trans h1, h2⟩
    obtain ⟨_, o, ho, hc⟩ := hr _ e.symm
    rw [h1] at ho; cases ho; cases hc
  case assign =>
    rintro l k V K ⟨⟨v, h1, h3⟩, hu⟩ hk hK
    obtain ⟨F, hF⟩ : ∃ F, psN ws k = F := ⟨_, rfl⟩
    obtain ⟨T, hT⟩ : ∃ T, psN ws (k + 1) = T := ⟨_, rfl⟩
    simp only [encB, hF, hT] at hK ⊢
    have uA : Upd NoB V (V.alloc (.cells #[.int .i64 F, .int .i64 T] 90)) := (Upd.refl _ _).alloc _
    have HKh := Lib.hid @hK
    have HsV := Lib.hid hu.size
    clear hK hF hT
    gi_wp2
    exact HKh.out _ _ (keeps_of_upd uA (fun _ _ h => h)) ⟨⟨uA.keepD (fun j hj => ⟨by have := (HD.out j hj).1; have := HsV.out; omega, fun h => h⟩), uA.size⟩, fun j h1 h2 => by omega⟩ ⟨⟨v, uA.heap h1 (noB _), uA.row h3 (fun j _ => noB j)⟩, hu.alloc _⟩ ⟨_, HsV.out, heap_alloc_new V _, rfl⟩
  case body =>
    rintro l k a' V ⟨⟨v, hb, hrow⟩, hu⟩ ⟨s0, hs0, hms, rfl⟩ hVs hk
    obtain ⟨va, vc, rfl⟩ := row_form hrow
    obtain ⟨x, hx, x1, x8, hs, hs8⟩ := HWg.out k hk
    have hwx := HWd.out k x hx
    have HScK := HSc.out k
    rw [hwx] at HScK
    simp only [hs] at hms ⊢
    have HScX := Lib.hid HScK
    clear HScK
    obtain ⟨q, hq⟩ : ∃ q, gnF (fun t => p (psN ws k + t)) x = q := ⟨_, rfl⟩
    have hpV : PrsA V g 0 p 128 := HP.out.upd hu (by have := HgW.out; have := HG3.out; have := HG5.out; omega)
    have HCl := Lib.hid (fun Z (u : Upd NoB V Z) => gainOf_any g (psN ws k * 2) x (c - psN ws k) (fun t => p (psN ws k + t)) Z ((hpV.sub hs8).later u) x8 (fun i => HPi.out _))
    rw [hq] at HCl HScX
    generalize (List.range k).map (fun k => gnF (fun t => p (psN ws k + t)) (wdN ws k)) = xs at *
    obtain ⟨f, hf⟩ : ∃ f, psN ws k = f := ⟨_, rfl⟩
    obtain ⟨t, ht⟩ : ∃ t, f + x = t := ⟨_, rfl⟩
    rw [hf] at hs8 HCl hms ⊢
    rw [ht] at hs8 hms ⊢
    have hsl := fun Z => run_slice_pr Z g 128 c f t (by omega) (by omega) (by omega)
    rw [show t - f = x by omega] at hsl
    have hneS : (Value.slice va k vc).ownBlock ≠ some s0 := row_ne hrow hms (by decide)
    have hsW := hu.size
    have h2V := hu.heap HB0.out (by have := HG3.out; have := HG5.out; omega)
    have h3V := hu.heap HB1.out (by have := HG5.out; omega)
    have k0 : V.cell? ⟨g3, 0, none⟩ = some (.func (.func 51) #[] #[]) := blk_cell h3V 0
    have k1 : V.cell? ⟨g2, 0, none⟩ = some (.slice (some ⟨g, 0, none⟩) 128 c) := blk_cell h2V 0
    have k2 : V.cell? ⟨s0, 0, none⟩ = some (.int .i64 (f : Int)) := blk_cell hms 0
    have k3 : V.cell? ⟨s0, 1, none⟩ = some (.int .i64 (t : Int)) := blk_cell hms 1
    have HSZ := Lib.hid (show ∀ Z, Upd NoB V Z → Z.cell? ⟨g3, 0, none⟩ = some (.func (.func 51) #[] #[]) ∧ Z.cell? ⟨g2, 0, none⟩ = some (.slice (some ⟨g, 0, none⟩) 128 c) ∧ Z.cell? ⟨s0, 0, none⟩ = some (.int .i64 (f : Int)) ∧ Z.cell? ⟨s0, 1, none⟩ = some (.int .i64 (t : Int)) from fun Z u => ⟨u.cell k0 (noB _), u.cell k1 (noB _), u.cell k2 (noB _), u.cell k3 (noB _)⟩)
    have hg5W : g5 < W.heap.size := by have := HSz.out; omega
    have hg2W : g2 < g5 ∧ g3 < g5 := by have := HG3.out; have := HG5.out; omega
    have HEnd := Lib.hid (show ∀ (w4 w6 : World) (g6 c6 : Nat), Upd NoB V w4 → w6.ownsRow (W.heap.size + 2) 3 1 (.slice (some ⟨g6, 0, none⟩) (k + 1) c6) (k + 1) (i64s xs ++ [.int .i64 q]) → (w4.alloc (.cells #[.int .i64 q] 3)).grownBy w6 (Value.slice va k vc).ownBlock →
        w6.heap[g5]? = some (.cells #[.slice va k vc] 22 (0, 0)) ∧
        (w6.cell? ⟨g3, 0, none⟩ = some (.func (.func 51) #[] #[]) ∧ w6.cell? ⟨g2, 0, none⟩ = some (.slice (some ⟨g, 0, none⟩) 128 c) ∧ w6.cell? ⟨s0, 0, none⟩ = some (.int .i64 (f : Int)) ∧ w6.cell? ⟨s0, 1, none⟩ = some (.int .i64 (t : Int))) ∧
        ((w6.setCell ⟨g5, 0, none⟩ (.slice (some ⟨g6, 0, none⟩) (k + 1) c6)).cell? ⟨g3, 0, none⟩ = some (.func (.func 51) #[] #[]) ∧ (w6.setCell ⟨g5, 0, none⟩ (.slice (some ⟨g6, 0, none⟩) (k + 1) c6)).cell? ⟨g2, 0, none⟩ = some (.slice (some ⟨g, 0, none⟩) 128 c) ∧ (w6.setCell ⟨g5, 0, none⟩ (.slice (some ⟨g6, 0, none⟩) (k + 1) c6)).cell? ⟨s0, 0, none⟩ = some (.int .i64 (f : Int)) ∧ (w6.setCell ⟨g5, 0, none⟩ (.slice (some ⟨g6, 0, none⟩) (k + 1) c6)).cell? ⟨s0, 1, none⟩ = some (.int .i64 (t : Int))) ∧
        KeepsFrom W.heap.size V (w6.setCell ⟨g5, 0, none⟩ (.slice (some ⟨g6, 0, none⟩) (k + 1) c6)) ∧
        ((KeepD (bandD B (.slice sa sn sc)) V (w6.setCell ⟨g5, 0, none⟩ (.slice (some ⟨g6, 0, none⟩) (k + 1) c6)) ∧ V.heap.size ≤ (w6.setCell ⟨g5, 0, none⟩ (.slice (some ⟨g6, 0, none⟩) (k + 1) c6)).heap.size) ∧ Win (W.heap.size + 2) 0 V (w6.setCell ⟨g5, 0, none⟩ (.slice (some ⟨g6, 0, none⟩) (k + 1) c6))) ∧
        (∃ v, (w6.setCell ⟨g5, 0, none⟩ (.slice (some ⟨g6, 0, none⟩) (k + 1) c6)).heap[g5]? = some (.cells #[v] 22 (0, 0)) ∧ (w6.setCell ⟨g5, 0, none⟩ (.slice (some ⟨g6, 0, none⟩) (k + 1) c6)).ownsRow (W.heap.size + 2) 3 1 v (k + 1) (i64s ((List.range (k + 1)).map fun k => gnF (fun t => p (psN ws k + t)) (wdN ws k)))) ∧
        Upd (fun j => j = g5) W (w6.setCell ⟨g5, 0, none⟩ (.slice (some ⟨g6, 0, none⟩) (k + 1) c6)) from fun w4 w6 g6 c6 u4 hown hg => by
      obtain ⟨⟨e1, e2⟩, e3, e4, e5, e6⟩ := told_step (R := W.heap.size + 2) (by omega) hu hg5W hb hrow u4 HD.out hown hg
      have us : Upd (fun j => j = g5) w6 (w6.setCell ⟨g5, 0, none⟩ (.slice (some ⟨g6, 0, none⟩) (k + 1) c6)) := (Upd.refl (fun j => j = g5) w6).setCell (p := ⟨g5, 0, none⟩) _ (fun _ => rfl)
      have a0 := e2 g3 0 _ (.inl (by omega)) k0
      have a1 := e2 g2 0 _ (.inl (by omega)) k1
      have a2 := e2 s0 0 _ (.inr hneS) k2
      have a3 := e2 s0 1 _ (.inr hneS) k3
      have ns : s0 ≠ g5 := by omega
      rw [HScX.out]
      exact ⟨e1, ⟨a0, a1, a2, a3⟩, ⟨us.cell a0 (fun e => by have e : g3 = g5 := e; omega), us.cell a1 (fun e => by have e : g2 = g5 := e; omega), us.cell a2 ns, us.cell a3 ns⟩, e3, e4, e5, e6⟩)
    have C3 := Lib.hid (show k + 1 ≤ maxLen by unfold maxLen; omega)
    have C4 := Lib.hid (show (k + 1) * 8 ≤ 140737488355328 by omega)
    have HVs := Lib.hid (show W.heap.size + 2 ≤ V.heap.size by omega)
    have HR := Lib.hid hrow; have HBv := Lib.hid hb
    have U0 := Lib.hid (show Upd NoB V V.drew from (Upd.refl NoB V).drew)
    clear hb hrow hu hms hVs hx hwx hs hq hf ht hpV hneS hsW h2V h3V k0 k1 k2 k3 x1 x8 hs8 hs0 hk hg5W hg2W
    gi_wp2
    refine region_held_in (fun Z => Z.cell? ⟨g3, 0, none⟩ = some (.func (.func 51) #[] #[]) ∧ Z.cell? ⟨g2, 0, none⟩ = some (.slice (some ⟨g, 0, none⟩) 128 c) ∧ Z.cell? ⟨s0, 0, none⟩ = some (.int .i64 (f : Int)) ∧ Z.cell? ⟨s0, 1, none⟩ = some (.int .i64 (t : Int))) (by kernel_rfl) (by kernel_rfl) (fun ⟨_, _, h⟩ => h) ?_
    change wpAnyH _ _ _ _ _ 13 #[false, false, false, false, false, false, false, false, false, false, false, false, false] { tmps := #[.agg #[.slice (some ⟨g, 0, none⟩) 128 c, .slice sa sn sc], .func (.func 51) #[] #[], .pointer (some ⟨g2, 0, none⟩), .pointer (some ⟨g3, 0, none⟩), .slice none 0 0, .pointer (some ⟨g5, 0, none⟩), undef, .pointer (some ⟨s0, 0, none⟩), .agg #[.slice (some ⟨g, 0, none⟩) 128 c, .slice sa sn sc], .func (.func 110) #[] #[.pointer (some ⟨B, 0, none⟩)], .int .i64 (k : Nat), .agg #[.int .i64 (f : Nat), .int .i64 (t : Nat)], undef, undef, undef, undef, undef, undef, undef, undef, undef, undef, undef, undef, undef], defers := [] } V.drew
    refine wpAnyH_take (i := 1) (v := .func (.func 51) #[] #[]) rfl (by kernel_rfl) (by kernel_rfl) (by kernel_rfl) (fun _ _ _ h => h) (Or.inl ⟨by rfl, fun Z hZ => ?_⟩) (HSZ.out _ U0.out) ?_
    · obtain ⟨k0, k1, k2, k3⟩ := hZ
      go_simp
    change wpAnyH _ _ _ _ _ 12 #[false, true, false, false, false, false, false, false, false, false, false, false, false] { tmps := #[.agg #[.slice (some ⟨g, 0, none⟩) 128 c, .slice sa sn sc], .func (.func 51) #[] #[], .pointer (some ⟨g2, 0, none⟩), .pointer (some ⟨g3, 0, none⟩), .slice none 0 0, .pointer (some ⟨g5, 0, none⟩), undef, .pointer (some ⟨s0, 0, none⟩), .agg #[.slice (some ⟨g, 0, none⟩) 128 c, .slice sa sn sc], .func (.func 110) #[] #[.pointer (some ⟨B, 0, none⟩)], .int .i64 (k : Nat), .agg #[.int .i64 (f : Nat), .int .i64 (t : Nat)], undef, .func (.func 51) #[] #[], undef, undef, undef, undef, undef, undef, undef, undef, undef, undef, undef], defers := [] } V.drew
    refine wpAnyH_take (i := 2) (v := .pointer (some ⟨g2, 0, none⟩)) rfl (by kernel_rfl) (by kernel_rfl) (by kernel_rfl) (fun _ _ _ h => h) (Or.inl ⟨by rfl, fun Z hZ => ?_⟩) (HSZ.out _ U0.out) ?_
    · obtain ⟨k0, k1, k2, k3⟩ := hZ
      go_simp
    change wpAnyH _ _ _ _ _ 11 #[false, true, true, false, false, false, false, false, false, false, false, false, false] { tmps := #[.agg #[.slice (some ⟨g, 0, none⟩) 128 c, .slice sa sn sc], .func (.func 51) #[] #[], .pointer (some ⟨g2, 0, none⟩), .pointer (some ⟨g3, 0, none⟩), .slice none 0 0, .pointer (some ⟨g5, 0, none⟩), undef, .pointer (some ⟨s0, 0, none⟩), .agg #[.slice (some ⟨g, 0, none⟩) 128 c, .slice sa sn sc], .func (.func 110) #[] #[.pointer (some ⟨B, 0, none⟩)], .int .i64 (k : Nat), .agg #[.int .i64 (f : Nat), .int .i64 (t : Nat)], undef, .func (.func 51) #[] #[], .pointer (some ⟨g2, 0, none⟩), undef, undef, undef, undef, undef, undef, undef, undef, undef, undef], defers := [] } V.drew
    refine wpAnyH_take (i := 3) (v := .slice (some ⟨g, 0, none⟩) 128 c) rfl (by kernel_rfl) (by kernel_rfl) (by kernel_rfl) (fun _ _ _ h => h) (Or.inl ⟨by rfl, fun Z hZ => ?_⟩) (HSZ.out _ U0.out) ?_
    · obtain ⟨k0, k1, k2, k3⟩ := hZ
      go_simp
    change wpAnyH _ _ _ _ _ 10 #[false, true, true, true, false, false, false, false, false, false, false, false, false] { tmps := #[.agg #[.slice (some ⟨g, 0, none⟩) 128 c, .slice sa sn sc], .func (.func 51) #[] #[], .pointer (some ⟨g2, 0, none⟩), .pointer (some ⟨g3, 0, none⟩), .slice none 0 0, .pointer (some ⟨g5, 0, none⟩), undef, .pointer (some ⟨s0, 0, none⟩), .agg #[.slice (some ⟨g, 0, none⟩) 128 c, .slice sa sn sc], .func (.func 110) #[] #[.pointer (some ⟨B, 0, none⟩)], .int .i64 (k : Nat), .agg #[.int .i64 (f : Nat), .int .i64 (t : Nat)], undef, .func (.func 51) #[] #[], .pointer (some ⟨g2, 0, none⟩), .slice (some ⟨g, 0, none⟩) 128 c, undef, undef, undef, undef, undef, undef, undef, undef, undef], defers := [] } V.drew
    refine wpAnyH_take (i := 4) (v := .pointer (some ⟨s0, 0, none⟩)) rfl (by kernel_rfl) (by kernel_rfl) (by kernel_rfl) (fun _ _ _ h => h) (Or.inl ⟨by rfl, fun Z hZ => ?_⟩) (HSZ.out _ U0.out) ?_
    · obtain ⟨k0, k1, k2, k3⟩ := hZ
      go_simp
    change wpAnyH _ _ _ _ _ 9 #[false, true, true, true, true, false, false, false, false, false, false, false, false] { tmps := #[.agg #[.slice (some ⟨g, 0, none⟩) 128 c, .slice sa sn sc], .func (.func 51) #[] #[], .pointer (some ⟨g2, 0, none⟩), .pointer (some ⟨g3, 0, none⟩), .slice none 0 0, .pointer (some ⟨g5, 0, none⟩), undef, .pointer (some ⟨s0, 0, none⟩), .agg #[.slice (some ⟨g, 0, none⟩) 128 c, .slice sa sn sc], .func (.func 110) #[] #[.pointer (some ⟨B, 0, none⟩)], .int .i64 (k : Nat), .agg #[.int .i64 (f : Nat), .int .i64 (t : Nat)], undef, .func (.func 51) #[] #[], .pointer (some ⟨g2, 0, none⟩), .slice (some ⟨g, 0, none⟩) 128 c, .pointer (some ⟨s0, 0, none⟩), undef, undef, undef, undef, undef, undef, undef, undef], defers := [] } V.drew
    refine wpAnyH_take (i := 5) (v := .int .i64 (f : Int)) rfl (by kernel_rfl) (by kernel_rfl) (by kernel_rfl) (fun _ _ _ h => h) (Or.inl ⟨by rfl, fun Z hZ => ?_⟩) (HSZ.out _ U0.out) ?_
    · obtain ⟨k0, k1, k2, k3⟩ := hZ
      go_simp
    change wpAnyH _ _ _ _ _ 8 #[false, true, true, true, true, true, false, false, false, false, false, false, false] { tmps := #[.agg #[.slice (some ⟨g, 0, none⟩) 128 c, .slice sa sn sc], .func (.func 51) #[] #[], .pointer (some ⟨g2, 0, none⟩), .pointer (some ⟨g3, 0, none⟩), .slice none 0 0, .pointer (some ⟨g5, 0, none⟩), undef, .pointer (some ⟨s0, 0, none⟩), .agg #[.slice (some ⟨g, 0, none⟩) 128 c, .slice sa sn sc], .func (.func 110) #[] #[.pointer (some ⟨B, 0, none⟩)], .int .i64 (k : Nat), .agg #[.int .i64 (f : Nat), .int .i64 (t : Nat)], undef, .func (.func 51) #[] #[], .pointer (some ⟨g2, 0, none⟩), .slice (some ⟨g, 0, none⟩) 128 c, .pointer (some ⟨s0, 0, none⟩), .int .i64 (f : Int), undef, undef, undef, undef, undef, undef, undef], defers := [] } V.drew
    refine wpAnyH_take (i := 6) (v := .pointer (some ⟨s0, 1, none⟩)) rfl (by kernel_rfl) (by kernel_rfl) (by kernel_rfl) (fun _ _ _ h => h) (Or.inl ⟨by rfl, fun Z hZ => ?_⟩) (HSZ.out _ U0.out) ?_
    · obtain ⟨k0, k1, k2, k3⟩ := hZ
      go_simp
    change wpAnyH _ _ _ _ _ 7 #[false, true, true, true, true, true, true, false, false, false, false, false, false] { tmps := #[.agg #[.slice (some ⟨g, 0, none⟩) 128 c, .slice sa sn sc], .func (.func 51) #[] #[], .pointer (some ⟨g2, 0, none⟩), .pointer (some ⟨g3, 0, none⟩), .slice none 0 0, .pointer (some ⟨g5, 0, none⟩), undef, .pointer (some ⟨s0, 0, none⟩), .agg #[.slice (some ⟨g, 0, none⟩) 128 c, .slice sa sn sc], .func (.func 110) #[] #[.pointer (some ⟨B, 0, none⟩)], .int .i64 (k : Nat), .agg #[.int .i64 (f : Nat), .int .i64 (t : Nat)], undef, .func (.func 51) #[] #[], .pointer (some ⟨g2, 0, none⟩), .slice (some ⟨g, 0, none⟩) 128 c, .pointer (some ⟨s0, 0, none⟩), .int .i64 (f : Int), .pointer (some ⟨s0, 1, none⟩), undef, undef, undef, undef, undef, undef], defers := [] } V.drew
    refine wpAnyH_take (i := 7) (v := .int .i64 (t : Int)) rfl (by kernel_rfl) (by kernel_rfl) (by kernel_rfl) (fun _ _ _ h => h) (Or.inl ⟨by rfl, fun Z hZ => ?_⟩) (HSZ.out _ U0.out) ?_
    · obtain ⟨k0, k1, k2, k3⟩ := hZ
      go_simp
    change wpAnyH _ _ _ _ _ 6 #[false, true, true, true, true, true, true, true, false, false, false, false, false] { tmps := #[.agg #[.slice (some ⟨g, 0, none⟩) 128 c, .slice sa sn sc], .func (.func 51) #[] #[], .pointer (some ⟨g2, 0, none⟩), .pointer (some ⟨g3, 0, none⟩), .slice none 0 0, .pointer (some ⟨g5, 0, none⟩), undef, .pointer (some ⟨s0, 0, none⟩), .agg #[.slice (some ⟨g, 0, none⟩) 128 c, .slice sa sn sc], .func (.func 110) #[] #[.pointer (some ⟨B, 0, none⟩)], .int .i64 (k : Nat), .agg #[.int .i64 (f : Nat), .int .i64 (t : Nat)], undef, .func (.func 51) #[] #[], .pointer (some ⟨g2, 0, none⟩), .slice (some ⟨g, 0, none⟩) 128 c, .pointer (some ⟨s0, 0, none⟩), .int .i64 (f : Int), .pointer (some ⟨s0, 1, none⟩), .int .i64 (t : Int), undef, undef, undef, undef, undef], defers := [] } V.drew
    refine wpAnyH_take (i := 8) (v := .slice (some ⟨g, f * 2, none⟩) x (c - f)) rfl (by kernel_rfl) (by kernel_rfl) (by kernel_rfl) (fun _ _ _ h => h) (Or.inl ⟨by rfl, fun Z hZ => ?_⟩) (HSZ.out _ U0.out) ?_
    · obtain ⟨k0, k1, k2, k3⟩ := hZ
      go_simp
    change wpAnyH _ _ _ _ _ 5 #[false, true, true, true, true, true, true, true, true, false, false, false, false] { tmps := #[.agg #[.slice (some ⟨g, 0, none⟩) 128 c, .slice sa sn sc], .func (.func 51) #[] #[], .pointer (some ⟨g2, 0, none⟩), .pointer (some ⟨g3, 0, none⟩), .slice none 0 0, .pointer (some ⟨g5, 0, none⟩), undef, .pointer (some ⟨s0, 0, none⟩), .agg #[.slice (some ⟨g, 0, none⟩) 128 c, .slice sa sn sc], .func (.func 110) #[] #[.pointer (some ⟨B, 0, none⟩)], .int .i64 (k : Nat), .agg #[.int .i64 (f : Nat), .int .i64 (t : Nat)], undef, .func (.func 51) #[] #[], .pointer (some ⟨g2, 0, none⟩), .slice (some ⟨g, 0, none⟩) 128 c, .pointer (some ⟨s0, 0, none⟩), .int .i64 (f : Int), .pointer (some ⟨s0, 1, none⟩), .int .i64 (t : Int), .slice (some ⟨g, f * 2, none⟩) x (c - f), undef, undef, undef, undef], defers := [] } V.drew
    refine wpAnyH_ready (rs := [0, 9]) (by kernel_rfl) (by simp) ?_
    refine AllReadyH.cons rfl (fun K hK => ?_) ?_
    · have d5 := blk_cell (U0.out.heap HBv.out (noB _)) 0
      go_simp
      refine hK.out _ _ (HSZ.out _ U0.out) (fun _ => ?_)
      clear d5
      change wpAnyH _ _ _ _ _ 4 #[true, true, true, true, true, true, true, true, true, false, false, false, false] { tmps := #[.agg #[.slice (some ⟨g, 0, none⟩) 128 c, .slice sa sn sc], .func (.func 51) #[] #[], .pointer (some ⟨g2, 0, none⟩), .pointer (some ⟨g3, 0, none⟩), .slice none 0 0, .pointer (some ⟨g5, 0, none⟩), undef, .pointer (some ⟨s0, 0, none⟩), .agg #[.slice (some ⟨g, 0, none⟩) 128 c, .slice sa sn sc], .func (.func 110) #[] #[.pointer (some ⟨B, 0, none⟩)], .int .i64 (k : Nat), .agg #[.int .i64 (f : Nat), .int .i64 (t : Nat)], .slice va k vc, .func (.func 51) #[] #[], .pointer (some ⟨g2, 0, none⟩), .slice (some ⟨g, 0, none⟩) 128 c, .pointer (some ⟨s0, 0, none⟩), .int .i64 (f : Int), .pointer (some ⟨s0, 1, none⟩), .int .i64 (t : Int), .slice (some ⟨g, f * 2, none⟩) x (c - f), undef, undef, undef, undef], defers := [] } V.drew
      refine wpAnyH_ready (rs := [9]) (by kernel_rfl) (by simp) ?_
      refine AllReadyH.cons rfl (fun K hK => ?_) ?_
      · go_simp
        refine (HCl.out _ U0.out).mono ?_
        rintro e w4 ⟨rfl, u4'⟩
        have U4 := Lib.hid (U0.out.then u4')
        clear u4'
        refine hK.out _ _ (HSZ.out _ U4.out) (fun _ => ?_)
        change wpAnyH _ _ _ _ _ 3 #[true, true, true, true, true, true, true, true, true, true, false, false, false] { tmps := #[.agg #[.slice (some ⟨g, 0, none⟩) 128 c, .slice sa sn sc], .func (.func 51) #[] #[], .pointer (some ⟨g2, 0, none⟩), .pointer (some ⟨g3, 0, none⟩), .slice none 0 0, .pointer (some ⟨g5, 0, none⟩), undef, .pointer (some ⟨s0, 0, none⟩), .agg #[.slice (some ⟨g, 0, none⟩) 128 c, .slice sa sn sc], .func (.func 110) #[] #[.pointer (some ⟨B, 0, none⟩)], .int .i64 (k : Nat), .agg #[.int .i64 (f : Nat), .int .i64 (t : Nat)], .slice va k vc, .func (.func 51) #[] #[], .pointer (some ⟨g2, 0, none⟩), .slice (some ⟨g, 0, none⟩) 128 c, .pointer (some ⟨s0, 0, none⟩), .int .i64 (f : Int), .pointer (some ⟨s0, 1, none⟩), .int .i64 (t : Int), .slice (some ⟨g, f * 2, none⟩) x (c - f), .int .i64 q, undef, undef, undef], defers := [] } w4
        refine wpAnyH_ready (rs := [10]) (by kernel_rfl) (by simp) ?_
        refine AllReadyH.cons rfl (fun K hK => ?_) ?_
        · go_simp
          refine hK.out _ _ (HSZ.out _ (U4.out.alloc _)) (fun _ => ?_)
          change wpAnyH _ _ _ _ _ 2 #[true, true, true, true, true, true, true, true, true, true, true, false, false] { tmps := #[.agg #[.slice (some ⟨g, 0, none⟩) 128 c, .slice sa sn sc], .func (.func 51) #[] #[], .pointer (some ⟨g2, 0, none⟩), .pointer (some ⟨g3, 0, none⟩), .slice none 0 0, .pointer (some ⟨g5, 0, none⟩), undef, .pointer (some ⟨s0, 0, none⟩), .agg #[.slice (some ⟨g, 0, none⟩) 128 c, .slice sa sn sc], .func (.func 110) #[] #[.pointer (some ⟨B, 0, none⟩)], .int .i64 (k : Nat), .agg #[.int .i64 (f : Nat), .int .i64 (t : Nat)], .slice va k vc, .func (.func 51) #[] #[], .pointer (some ⟨g2, 0, none⟩), .slice (some ⟨g, 0, none⟩) 128 c, .pointer (some ⟨s0, 0, none⟩), .int .i64 (f : Int), .pointer (some ⟨s0, 1, none⟩), .int .i64 (t : Int), .slice (some ⟨g, f * 2, none⟩) x (c - f), .int .i64 q, .slice (some ⟨w4.heap.size, 0, none⟩) 1 1, undef, undef], defers := [] } (w4.alloc (.cells #[.int .i64 q] 3))
          refine wpAnyH_ready (rs := [11]) (by kernel_rfl) (by simp) ?_
          refine AllReadyH.cons rfl (fun K hK => ?_) ?_
          · refine step_append_lies _ (by rfl) _ _ _ (by rfl) (W.heap.size + 2) 3 i0 (.int .i64 0) 1 8 Try.underlying22 hii hz0 hz1 hz2 (by rfl) (by decide) _ k (i64s xs) (by rfl) (by exact (U4.out.alloc _).row HR.out (fun q _ => noB q)) ⟨w4.heap.size, 0, none⟩ 1 1 [.int .i64 q] (by rfl) (by rfl) (by exact World.news_of_block (heap_alloc_new w4 _)) (by intro q hq; rw [List.mem_singleton] at hq; subst hq; rfl) (by decide) C3.out C4.out (by exact Nat.le_trans HVs.out (U4.out.alloc _).size) _ (by rfl) ?_
            intro g6 c6 w6 hown6 hg6 hat6 hlt6
            have HX := Lib.hid (HEnd.out w4 w6 g6 c6 U4.out hown6 hg6)
            clear hown6 hg6 hat6 hlt6
            refine hK.out _ _ HX.out.2.1 (fun _ => ?_)
            change wpAnyH _ _ _ _ _ 1 #[true, true, true, true, true, true, true, true, true, true, true, true, false] { tmps := #[.agg #[.slice (some ⟨g, 0, none⟩) 128 c, .slice sa sn sc], .func (.func 51) #[] #[], .pointer (some ⟨g2, 0, none⟩), .pointer (some ⟨g3, 0, none⟩), .slice none 0 0, .pointer (some ⟨g5, 0, none⟩), undef, .pointer (some ⟨s0, 0, none⟩), .agg #[.slice (some ⟨g, 0, none⟩) 128 c, .slice sa sn sc], .func (.func 110) #[] #[.pointer (some ⟨B, 0, none⟩)], .int .i64 (k : Nat), .agg #[.int .i64 (f : Nat), .int .i64 (t : Nat)], .slice va k vc, .func (.func 51) #[] #[], .pointer (some ⟨g2, 0, none⟩), .slice (some ⟨g, 0, none⟩) 128 c, .pointer (some ⟨s0, 0, none⟩), .int .i64 (f : Int), .pointer (some ⟨s0, 1, none⟩), .int .i64 (t : Int), .slice (some ⟨g, f * 2, none⟩) x (c - f), .int .i64 q, .slice (some ⟨w4.heap.size, 0, none⟩) 1 1, .slice (some ⟨g6, 0, none⟩) (k + 1) c6, undef], defers := [] } w6
            refine wpAnyH_ready (rs := [12]) (by kernel_rfl) (by simp) ?_
            refine AllReadyH.cons rfl (fun K hK => ?_) ?_
            · have m0 := blk_cell HX.out.1 0
              have mf := blk_free HX.out.1 0
              go_simp
              refine hK.out _ _ HX.out.2.2.1 (fun _ => ?_)
              exact wpAnyH_done (by kernel_rfl) HX.out.2.2.2 _
            exact AllReadyH.nil
          exact AllReadyH.nil
        exact AllReadyH.nil
      exact AllReadyH.nil
    refine AllReadyH.cons rfl (fun K hK => ?_) ?_
    · go_simp
      refine (HCl.out _ U0.out).mono ?_
      rintro e w4 ⟨rfl, u4'⟩
      have U4 := Lib.hid (U0.out.then u4')
      clear u4'
      refine hK.out _ _ (HSZ.out _ U4.out) (fun _ => ?_)
      change wpAnyH _ _ _ _ _ 4 #[false, true, true, true, true, true, true, true, true, true, false, false, false] { tmps := #[.agg #[.slice (some ⟨g, 0, none⟩) 128 c, .slice sa sn sc], .func (.func 51) #[] #[], .pointer (some ⟨g2, 0, none⟩), .pointer (some ⟨g3, 0, none⟩), .slice none 0 0, .pointer (some ⟨g5, 0, none⟩), undef, .pointer (some ⟨s0, 0, none⟩), .agg #[.slice (some ⟨g, 0, none⟩) 128 c, .slice sa sn sc], .func (.func 110) #[] #[.pointer (some ⟨B, 0, none⟩)], .int .i64 (k : Nat), .agg #[.int .i64 (f : Nat), .int .i64 (t : Nat)], undef, .func (.func 51) #[] #[], .pointer (some ⟨g2, 0, none⟩), .slice (some ⟨g, 0, none⟩) 128 c, .pointer (some ⟨s0, 0, none⟩), .int .i64 (f : Int), .pointer (some ⟨s0, 1, none⟩), .int .i64 (t : Int), .slice (some ⟨g, f * 2, none⟩) x (c - f), .int .i64 q, undef, undef, undef], defers := [] } w4
      refine wpAnyH_ready (rs := [0, 10]) (by kernel_rfl) (by simp) ?_
      refine AllReadyH.cons rfl (fun K hK => ?_) ?_
      · have d5 := blk_cell (U4.out.heap HBv.out (noB _)) 0
        go_simp
        refine hK.out _ _ (HSZ.out _ U4.out) (fun _ => ?_)
        clear d5
        change wpAnyH _ _ _ _ _ 3 #[true, true, true, true, true, true, true, true, true, true, false, false, false] { tmps := #[.agg #[.slice (some ⟨g, 0, none⟩) 128 c, .slice sa sn sc], .func (.func 51) #[] #[], .pointer (some ⟨g2, 0, none⟩), .pointer (some ⟨g3, 0, none⟩), .slice none 0 0, .pointer (some ⟨g5, 0, none⟩), undef, .pointer (some ⟨s0, 0, none⟩), .agg #[.slice (some ⟨g, 0, none⟩) 128 c, .slice sa sn sc], .func (.func 110) #[] #[.pointer (some ⟨B, 0, none⟩)], .int .i64 (k : Nat), .agg #[.int .i64 (f : Nat), .int .i64 (t : Nat)], .slice va k vc, .func (.func 51) #[] #[], .pointer (some ⟨g2, 0, none⟩), .slice (some ⟨g, 0, none⟩) 128 c, .pointer (some ⟨s0, 0, none⟩), .int .i64 (f : Int), .pointer (some ⟨s0, 1, none⟩), .int .i64 (t : Int), .slice (some ⟨g, f * 2, none⟩) x (c - f), .int .i64 q, undef, undef, undef], defers := [] } w4
        refine wpAnyH_ready (rs := [10]) (by kernel_rfl) (by simp) ?_
        refine AllReadyH.cons rfl (fun K hK => ?_) ?_
        · go_simp
          refine hK.out _ _ (HSZ.out _ (U4.out.alloc _)) (fun _ => ?_)
          change wpAnyH _ _ _ _ _ 2 #[true, true, true, true, true, true, true, true, true, true, true, false, false] { tmps := #[.agg #[.slice (some ⟨g, 0, none⟩) 128 c, .slice sa sn sc], .func (.func 51) #[] #[], .pointer (some ⟨g2, 0, none⟩), .pointer (some ⟨g3, 0, none⟩), .slice none 0 0, .pointer (some ⟨g5, 0, none⟩), undef, .pointer (some ⟨s0, 0, none⟩), .agg #[.slice (some ⟨g, 0, none⟩) 128 c, .slice sa sn sc], .func (.func 110) #[] #[.pointer (some ⟨B, 0, none⟩)], .int .i64 (k : Nat), .agg #[.int .i64 (f : Nat), .int .i64 (t : Nat)], .slice va k vc, .func (.func 51) #[] #[], .pointer (some ⟨g2, 0, none⟩), .slice (some ⟨g, 0, none⟩) 128 c, .pointer (some ⟨s0, 0, none⟩), .int .i64 (f : Int), .pointer (some ⟨s0, 1, none⟩), .int .i64 (t : Int), .slice (some ⟨g, f * 2, none⟩) x (c - f), .int .i64 q, .slice (some ⟨w4.heap.size, 0, none⟩) 1 1, undef, undef], defers := [] } (w4.alloc (.cells #[.int .i64 q] 3))
          refine wpAnyH_ready (rs := [11]) (by kernel_rfl) (by simp) ?_
          refine AllReadyH.cons rfl (fun K hK => ?_) ?_
          · refine step_append_lies _ (by rfl) _ _ _ (by rfl) (W.heap.size + 2) 3 i0 (.int .i64 0) 1 8 Try.underlying22 hii hz0 hz1 hz2 (by rfl) (by decide) _ k (i64s xs) (by rfl) (by exact (U4.out.alloc _).row HR.out (fun q _ => noB q)) ⟨w4.heap.size, 0, none⟩ 1 1 [.int .i64 q] (by rfl) (by rfl) (by exact World.news_of_block (heap_alloc_new w4 _)) (by intro q hq; rw [List.mem_singleton] at hq; subst hq; rfl) (by decide) C3.out C4.out (by exact Nat.le_trans HVs.out (U4.out.alloc _).size) _ (by rfl) ?_
            intro g6 c6 w6 hown6 hg6 hat6 hlt6
            have HX := Lib.hid (HEnd.out w4 w6 g6 c6 U4.out hown6 hg6)
            clear hown6 hg6 hat6 hlt6
            refine hK.out _ _ HX.out.2.1 (fun _ => ?_)
            change wpAnyH _ _ _ _ _ 1 #[true, true, true, true, true, true, true, true, true, true, true, true, false] { tmps := #[.agg #[.slice (some ⟨g, 0, none⟩) 128 c, .slice sa sn sc], .func (.func 51) #[] #[], .pointer (some ⟨g2, 0, none⟩), .pointer (some ⟨g3, 0, none⟩), .slice none 0 0, .pointer (some ⟨g5, 0, none⟩), undef, .pointer (some ⟨s0, 0, none⟩), .agg #[.slice (some ⟨g, 0, none⟩) 128 c, .slice sa sn sc], .func (.func 110) #[] #[.pointer (some ⟨B, 0, none⟩)], .int .i64 (k : Nat), .agg #[.int .i64 (f : Nat), .int .i64 (t : Nat)], .slice va k vc, .func (.func 51) #[] #[], .pointer (some ⟨g2, 0, none⟩), .slice (some ⟨g, 0, none⟩) 128 c, .pointer (some ⟨s0, 0, none⟩), .int .i64 (f : Int), .pointer (some ⟨s0, 1, none⟩), .int .i64 (t : Int), .slice (some ⟨g, f * 2, none⟩) x (c - f), .int .i64 q, .slice (some ⟨w4.heap.size, 0, none⟩) 1 1, .slice (some ⟨g6, 0, none⟩) (k + 1) c6, undef], defers := [] } w6
            refine wpAnyH_ready (rs := [12]) (by kernel_rfl) (by simp) ?_
            refine AllReadyH.cons rfl (fun K hK => ?_) ?_
            · have m0 := blk_cell HX.out.1 0
              have mf := blk_free HX.out.1 0
              go_simp
              refine hK.out _ _ HX.out.2.2.1 (fun _ => ?_)
              exact wpAnyH_done (by kernel_rfl) HX.out.2.2.2 _
            exact AllReadyH.nil
          exact AllReadyH.nil
        exact AllReadyH.nil
      refine AllReadyH.cons rfl (fun K hK => ?_) ?_
      · go_simp
        refine hK.out _ _ (HSZ.out _ (U4.out.alloc _)) (fun _ => ?_)
        change wpAnyH _ _ _ _ _ 3 #[false, true, true, true, true, true, true, true, true, true, true, false, false] { tmps := #[.agg #[.slice (some ⟨g, 0, none⟩) 128 c, .slice sa sn sc], .func (.func 51) #[] #[], .pointer (some ⟨g2, 0, none⟩), .pointer (some ⟨g3, 0, none⟩), .slice none 0 0, .pointer (some ⟨g5, 0, none⟩), undef, .pointer (some ⟨s0, 0, none⟩), .agg #[.slice (some ⟨g, 0, none⟩) 128 c, .slice sa sn sc], .func (.func 110) #[] #[.pointer (some ⟨B, 0, none⟩)], .int .i64 (k : Nat), .agg #[.int .i64 (f : Nat), .int .i64 (t : Nat)], undef, .func (.func 51) #[] #[], .pointer (some ⟨g2, 0, none⟩), .slice (some ⟨g, 0, none⟩) 128 c, .pointer (some ⟨s0, 0, none⟩), .int .i64 (f : Int), .pointer (some ⟨s0, 1, none⟩), .int .i64 (t : Int), .slice (some ⟨g, f * 2, none⟩) x (c - f), .int .i64 q, .slice (some ⟨w4.heap.size, 0, none⟩) 1 1, undef, undef], defers := [] } (w4.alloc (.cells #[.int .i64 q] 3))
        refine wpAnyH_ready (rs := [0]) (by kernel_rfl) (by simp) ?_
        refine AllReadyH.cons rfl (fun K hK => ?_) ?_
        · have d5 := blk_cell ((U4.out.alloc (.cells #[.int .i64 q] 3)).heap HBv.out (noB _)) 0
          go_simp
          refine hK.out _ _ (HSZ.out _ (U4.out.alloc _)) (fun _ => ?_)
          clear d5
          change wpAnyH _ _ _ _ _ 2 #[true, true, true, true, true, true, true, true, true, true, true, false, false] { tmps := #[.agg #[.slice (some ⟨g, 0, none⟩) 128 c, .slice sa sn sc], .func (.func 51) #[] #[], .pointer (some ⟨g2, 0, none⟩), .pointer (some ⟨g3, 0, none⟩), .slice none 0 0, .pointer (some ⟨g5, 0, none⟩), undef, .pointer (some ⟨s0, 0, none⟩), .agg #[.slice (some ⟨g, 0, none⟩) 128 c, .slice sa sn sc], .func (.func 110) #[] #[.pointer (some ⟨B, 0, none⟩)], .int .i64 (k : Nat), .agg #[.int .i64 (f : Nat), .int .i64 (t : Nat)], .slice va k vc, .func (.func 51) #[] #[], .pointer (some ⟨g2, 0, none⟩), .slice (some ⟨g, 0, none⟩) 128 c, .pointer (some ⟨s0, 0, none⟩), .int .i64 (f : Int), .pointer (some ⟨s0, 1, none⟩), .int .i64 (t : Int), .slice (some ⟨g, f * 2, none⟩) x (c - f), .int .i64 q, .slice (some ⟨w4.heap.size, 0, none⟩) 1 1, undef, undef], defers := [] } (w4.alloc (.cells #[.int .i64 q] 3))
          refine wpAnyH_ready (rs := [11]) (by kernel_rfl) (by simp) ?_
          refine AllReadyH.cons rfl (fun K hK => ?_) ?_
          · refine step_append_lies _ (by rfl) _ _ _ (by rfl) (W.heap.size + 2) 3 i0 (.int .i64 0) 1 8 Try.underlying22 hii hz0 hz1 hz2 (by rfl) (by decide) _ k (i64s xs) (by rfl) (by exact (U4.out.alloc _).row HR.out (fun q _ => noB q)) ⟨w4.heap.size, 0, none⟩ 1 1 [.int .i64 q] (by rfl) (by rfl) (by exact World.news_of_block (heap_alloc_new w4 _)) (by intro q hq; rw [List.mem_singleton] at hq; subst hq; rfl) (by decide) C3.out C4.out (by exact Nat.le_trans HVs.out (U4.out.alloc _).size) _ (by rfl) ?_
            intro g6 c6 w6 hown6 hg6 hat6 hlt6
            have HX := Lib.hid (HEnd.out w4 w6 g6 c6 U4.out hown6 hg6)
            clear hown6 hg6 hat6 hlt6
            refine hK.out _ _ HX.out.2.1 (fun _ => ?_)
            change wpAnyH _ _ _ _ _ 1 #[true, true, true, true, true, true, true, true, true, true, true, true, false] { tmps := #[.agg #[.slice (some ⟨g, 0, none⟩) 128 c, .slice sa sn sc], .func (.func 51) #[] #[], .pointer (some ⟨g2, 0, none⟩), .pointer (some ⟨g3, 0, none⟩), .slice none 0 0, .pointer (some ⟨g5, 0, none⟩), undef, .pointer (some ⟨s0, 0, none⟩), .agg #[.slice (some ⟨g, 0, none⟩) 128 c, .slice sa sn sc], .func (.func 110) #[] #[.pointer (some ⟨B, 0, none⟩)], .int .i64 (k : Nat), .agg #[.int .i64 (f : Nat), .int .i64 (t : Nat)], .slice va k vc, .func (.func 51) #[] #[], .pointer (some ⟨g2, 0, none⟩), .slice (some ⟨g, 0, none⟩) 128 c, .pointer (some ⟨s0, 0, none⟩), .int .i64 (f : Int), .pointer (some ⟨s0, 1, none⟩), .int .i64 (t : Int), .slice (some ⟨g, f * 2, none⟩) x (c - f), .int .i64 q, .slice (some ⟨w4.heap.size, 0, none⟩) 1 1, .slice (some ⟨g6, 0, none⟩) (k + 1) c6, undef], defers := [] } w6
            refine wpAnyH_ready (rs := [12]) (by kernel_rfl) (by simp) ?_
            refine AllReadyH.cons rfl (fun K hK => ?_) ?_
            · have m0 := blk_cell HX.out.1 0
              have mf := blk_free HX.out.1 0
              go_simp
              refine hK.out _ _ HX.out.2.2.1 (fun _ => ?_)
              exact wpAnyH_done (by kernel_rfl) HX.out.2.2.2 _
            exact AllReadyH.nil
          exact AllReadyH.nil
        exact AllReadyH.nil
      exact AllReadyH.nil
    exact AllReadyH.nil
  case done =>
    rintro D V hD ⟨⟨v, hb, hrow⟩, hu⟩ hK
    obtain ⟨va, vc, rfl⟩ := row_form hrow
    have d0 := blk_cell hb 0
    have HR := Lib.hid hrow; have HUv := Lib.hid hu; have HKd := Lib.hid hK; have HDl := Lib.hid hD
    clear hb hrow hu hK
    go_wp2
    refine ⟨by simp, .inl ⟨_, _, rfl, run_takeDeferred HKd.out, ?_⟩⟩
    refine ⟨_, results_tmp rfl _ _ _, _, rfl, ?_, ?_⟩
    · rw [HLn.out]
      have := HSz.out
      have := HG2.out
      have := HG3.out
      have := HG5.out
      exact row_base (srow_grown HR.out (grownBy_putObj' _ _ _) (fun r e => by cases e; exact .inr ⟨_, HKd.out, rfl⟩)) (by omega)
    · have hall : Upd (fun j => w.heap.size ≤ j) w (V.putObj D (.deferred none)) :=
        ((HU.out.mono (T := fun j => w.heap.size ≤ j) (fun _ _ h => h.elim)).trans HUv.out (fun k _ h => by have := HG2.out; have := HG3.out; have := HG5.out; omega)).grown (grownBy_putObj' _ _ _) (fun k e hlt => by cases e; have := HDl.out; have := HU.out.size; omega)
      exact hall.mono (fun k hk h => by omega)

end Go.Proofs.Ytopjjdfnnjgnlaa
