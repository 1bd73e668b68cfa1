/- stereo: turned (made by tools/mkUN.py) -/
import Derived.Test.YtopjjdfnnjgnlaaUM
import Derived.Deep.RegionLaw
import Derived.Deep.AppendLies
namespace Go.Proofs.Ytopjjdfnnjgnlaa
open Go.RowKit Go.Shelf
attribute [local go_sem] Oper.semAt_some

theorem boxes4 (W : World) (o0 o1 o2 o3 : Obj) : ((((W.alloc o0).alloc o1).alloc o2).alloc o3).heap[W.heap.size]? = some o0 ∧ ((((W.alloc o0).alloc o1).alloc o2).alloc o3).heap[W.heap.size + 1]? = some o1 ∧ ((((W.alloc o0).alloc o1).alloc o2).alloc o3).heap[W.heap.size + 1 + 1]? = some o2 ∧ ((((W.alloc o0).alloc o1).alloc o2).alloc o3).heap[W.heap.size + 1 + 1 + 1]? = some o3 ∧ Upd NoB W ((((W.alloc o0).alloc o1).alloc o2).alloc o3) ∧ ((((W.alloc o0).alloc o1).alloc o2).alloc o3).heap.size = W.heap.size + 1 + 1 + 1 + 1 := by
  obtain ⟨h0, h1, h2, u⟩ := boxes3 W o0 o1 o2
  have s3 : (((W.alloc o0).alloc o1).alloc o2).heap.size = W.heap.size + 1 + 1 + 1 := by simp
  have h3 := heap_alloc_new (((W.alloc o0).alloc o1).alloc o2) o3
  rw [s3] at h3
  have u2 : Upd NoB (((W.alloc o0).alloc o1).alloc o2) ((((W.alloc o0).alloc o1).alloc o2).alloc o3) := (Upd.refl _ _).alloc _
  exact ⟨u2.heap h0 (noB _), u2.heap h1 (noB _), u2.heap h2 (noB _), h3, u.then u2, by simp⟩
theorem TwoB.own {W : World} {R g4 g5 n : Nat} {xs ys : List Int} {va vb : Value} {A A' : World} {row : Option Nat} (h : TwoB W R g4 g5 n xs ys va vb A) (h4 : g4 < W.heap.size) (h5 : g5 < W.heap.size) (hR : R = W.heap.size + 2) (hg : A.grownBy A' row)
    (hr : ∀ r, row = some r → W.heap.size ≤ r ∧ (r < W.heap.size + (0 + 2) ∨ ∃ o : Obj, A.heap[r]? = some o ∧ o.isCells = false)) : TwoB W R g4 g5 n xs ys va vb A' := by
  have hgr : ∀ r, row = some r → r < R ∨ ∃ o : Obj, A.heap[r]? = some o ∧ o.isCells = false := fun r e => (hr r e).2.imp (fun h => by omega) id
  refine ⟨(hg.block _ (lt_of_block h.ha) (fun e => ?_)).trans h.ha, (hg.block _ (lt_of_block h.hb) (fun e => ?_)).trans h.hb, srow_grown h.ra hg hgr, srow_grown h.rb hg hgr, h.d, h.u.grown hg (fun k e hk => ?_)⟩
  · have := (hr _ e.symm).1; omega
  · have := (hr _ e.symm).1; omega
  · have := (hr k e).1; omega
theorem load_sl (w : World) (g : Nat) (x : Value) (h : w.cell? ⟨g, 0, none⟩ = some x) : (loadVar 22 ⟨g, 0, none⟩).run Try.prog w = .ok x w := by
  simp [loadVar, Sem.run_bind, Result.andThen, h, go_sem]
theorem results_two {fn : Func} {p q : Tmp} (h : fn.results = #[.cell p 22, .cell q 22]) (tmps : Array Value) (w : World) (g g' : Nat) (x y : Value)
    (hp : tmps.getD p undef = .pointer (some ⟨g, 0, none⟩)) (hq : tmps.getD q undef = .pointer (some ⟨g', 0, none⟩)) (hg : w.cell? ⟨g, 0, none⟩ = some x) (hg' : w.cell? ⟨g', 0, none⟩ = some y) :
    (results fn tmps).run Try.prog w = .ok (.tuple #[x, y]) w := by
  have l1 := load_sl w g x hg
  have l2 := load_sl w g' y hg'
  have hp' : tmps[p]?.getD undef = .pointer (some ⟨g, 0, none⟩) := by simpa using hp
  have hq' : tmps[q]?.getD undef = .pointer (some ⟨g', 0, none⟩) := by simpa using hq
  simp [results, h, hp', hq', asAddr, Sem.run_bind, Result.andThen, l1, l2]
set_option maxRecDepth 100000 in
set_option maxHeartbeats 8000000 in
theorem turnedM_any (g c m1 mc : Nat) (ma : Option Addr) (sw : Value) (l r ws : List Int) (mid : List Bool) (w : World) (hw : isW ws = true) (hi : Ints w sw ws) (hp : PrsA w g 0 (P2 l r) 128) (hc : 128 ≤ c) (hpi : ∀ i, InP 1073741824 (P2 l r i)) (hK : mid.length = ws.length)
    (hm1 : w.cell? ⟨m1, 0, none⟩ = some (.slice ma ws.length mc)) (hm2 : w.cell? ⟨m1 + 1, 0, none⟩ = some (.func (.func 59) #[] #[])) (hbl : Bls w (.slice ma ws.length mc) mid) :
    Calls Try.prog 57 #[.agg #[.slice (some ⟨g, 0, none⟩) 128 c, sw], .func (.func 94) #[] #[.pointer (some ⟨m1, 0, none⟩), .pointer (some ⟨m1 + 1, 0, none⟩)]] w fun e w' => ∃ a ca b cb, e = .returned (.tuple #[.slice a 128 ca, .slice b 128 cb]) ∧ w'.ownsRow w.heap.size 3 1 (.slice a 128 ca) 128 (i64s (cpA midP l r ws mid 128)) ∧ w'.ownsRow w.heap.size 3 1 (.slice b 128 cb) 128 (i64s (cpB midP l r ws mid 128)) ∧ Upd NoB w w' := by
  obtain ⟨W0, hW0⟩ : ∃ W, W = (((w.alloc (.cells #[.slice (some ⟨g, 0, none⟩) 128 c, sw] 51)).alloc (.cells #[.func (.func 94) #[] #[.pointer (some ⟨m1, 0, none⟩), .pointer (some ⟨m1 + 1, 0, none⟩)]] 61)).alloc (.cells #[.slice none 0 0] 22)).alloc (.cells #[.slice none 0 0] 22) := ⟨_, rfl⟩
  obtain ⟨b0, b1, b2, b2', hu0, hsz0⟩ := boxes4 w (.cells #[.slice (some ⟨g, 0, none⟩) 128 c, sw] 51) (.cells #[.func (.func 94) #[] #[.pointer (some ⟨m1, 0, none⟩), .pointer (some ⟨m1 + 1, 0, none⟩)]] 61) (.cells #[.slice none 0 0] 22) (.cells #[.slice none 0 0] 22)
  rw [← hW0] at b0 b1 b2 b2' hu0 hsz0
  obtain ⟨W, hW⟩ : ∃ W, W = W0.alloc (.cells #[.slice (some ⟨g, 0, none⟩) 128 c, sw] 51) := ⟨_, rfl⟩
  have b3 : W.heap[W0.heap.size]? = some (.cells #[.slice (some ⟨g, 0, none⟩) 128 c, sw] 51 (0, 0)) := by rw [hW]; exact heap_alloc_new W0 _
  have u3 : Upd NoB W0 W := by rw [hW]; exact (Upd.refl _ _).alloc _
  have hu := hu0.then u3
  have HSq := Lib.hid (bands1_seq W0.heap.size 1 _ sw ws W hw (hi.later hu) b3)
  have hne : ws ≠ [] := by
    rintro rfl
    have := (isW_ok hw).2.1
    simp at this
  have hmne : mid ≠ [] := by
    rintro rfl
    have := (isW_ok hw).2.1
    simp at hK
    omega
  have hD : ∀ j, bandD W0.heap.size sw j → j < W.heap.size ∧ j ≠ w.heap.size + 1 + 1 ∧ j ≠ w.heap.size + 1 + 1 + 1 := fun j hj => by
    rcases hj with rfl | hj
    · exact ⟨lt_of_block b3, by omega, by omega⟩
    · have := hi.lt hne j hj
      have := hu.size
      omega
  have HD := Lib.hid hD
  have HP := Lib.hid (hp.later hu); have HPi := Lib.hid hpi
  have HWg := Lib.hid (fun k hk => isW_get hw (k := k) hk)
  have HM1 := Lib.hid (hu.cell hm1 (noB _)); have HM2 := Lib.hid (hu.cell hm2 (noB _)); have HBl := Lib.hid (hbl.later hu)
  have HMlt := Lib.hid (show m1 + 1 < w.heap.size from (by have := World.block_lt_of_cell? w _ hm2; exact this)); have HBlt := Lib.hid (hbl.lt hmne)
  have HB0 := Lib.hid (u3.heap b0 (noB _)); have HB1 := Lib.hid (u3.heap b1 (noB _)); have HU := Lib.hid hu
  have HT0 := Lib.hid (show TwoB W (W.heap.size + 2) (w.heap.size + 1 + 1) (w.heap.size + 1 + 1 + 1) (psN ws 0) (cpA midP l r ws mid (psN ws 0)) (cpB midP l r ws mid (psN ws 0)) (.slice none 0 0) (.slice none 0 0) W from
    ⟨u3.heap b2 (noB _), u3.heap b2' (noB _), World.ownsRow_nil _ _ _ _, World.ownsRow_nil _ _ _ _, fun j hj => by simp [Value.ownBlock] at hj, Upd.refl _ _⟩)
  have HgW := Lib.hid (show g < w.heap.size from (by have := World.block_lt_of_cell? w _ (hp 0 (by decide)).1; exact this))
  have HSz := Lib.hid (show w.heap.size + 1 + 1 + 1 + 1 < W.heap.size from by have := lt_of_block b3; omega)
  have HSA := Lib.hid (fun n => cpA_succ midP l r ws mid n); have HSB := Lib.hid (fun n => cpB_succ midP l r ws mid n)
  have HAt := Lib.hid (fun (k x t : Nat) (hx : ws[k]? = some ((x : Nat) : Int)) (ht : t < x) => cpP_at midP l r mid hx ht)
  have HEnd := Lib.hid (isW_ok hw).2.2.2
  have hN8 := (isW_ok hw).1
  have HKl := Lib.hid hK
  have HW := Lib.hid hW; have HW0 := Lib.hid hW0
  have HB := Lib.hid (show W0.heap.size = w.heap.size + 1 + 1 + 1 + 1 from hsz0)
  obtain ⟨sa, sn, sc, rfl⟩ : ∃ a n c, sw = .slice a n c := by obtain ⟨a, c, e⟩ := hi.form; exact ⟨a, _, c, e⟩
  have c0 := cell_of_block0 b0
  have c1 := cell_of_block1 b0
  obtain ⟨i0, hii, hz0, hz1, hz2⟩ := info_parts Try.infoInt
  clear hp hi hw hW hW0 b0 b1 b2 b2' b3 hu0 u3 hu hD hpi hsz0 hne hmne hm1 hm2 hbl hK
  obtain ⟨N, hN⟩ : ∃ N, ws.length = N := ⟨_, rfl⟩
  rw [hN] at HSq HWg HM1 HBl HKl HEnd hN8 HBlt
  clear hN
  refine (callsIn_wide (n := 2)).1 ?_
  refine callsIn_of_wp_marks Try.func57 rfl trivial (wpIn_wide.2 ?_) rfl
  simp only [Try.ntmps57, List.size_toArray, List.length_cons, List.length_nil, Nat.reduceAdd, Nat.reduceSub, Array.replicate_succ, Array.replicate_zero, List.push_toArray, List.append_toArray, List.nil_append, List.cons_append]
  go_wp2_with fail
  rw [← HW0.out]
  refine (bands_any _ _ W0).mono ?_
  rintro e w2 ⟨rfl, rfl⟩
  rw [← HW.out]
  obtain ⟨B, hB⟩ : ∃ B, W0.heap.size = B := ⟨_, rfl⟩
  rw [hB] at HSq HD HB ⊢
  obtain ⟨g2, hg2⟩ : ∃ B, w.heap.size = B := ⟨_, rfl⟩
  have HG2 := Lib.hid hg2
  rw [hg2] at HD HB0 HB1 HT0 HgW HSz HB HMlt HBlt c0 c1 ⊢
  obtain ⟨g3, hg3⟩ : ∃ B, g2 + 1 = B := ⟨_, rfl⟩
  rw [hg3] at HD HB1 HT0 HSz HB ⊢
  obtain ⟨g4, hg4⟩ : ∃ B, g3 + 1 = B := ⟨_, rfl⟩
  rw [hg4] at HD HT0 HSz HB ⊢
  obtain ⟨g5, hg5⟩ : ∃ B, g4 + 1 = B := ⟨_, rfl⟩
  rw [hg5] at HD HT0 HSz HB ⊢
  have HG3 := Lib.hid hg3; have HG4 := Lib.hid hg4; have HG5 := Lib.hid hg5
  clear hB hg2 hg3 hg4 hg5 c0 c1
  go_wp2_with fail
  refine (wpIn_wide (n := 2)).1 (wpIn_rangeN rfl (by omega) (gf := 110) (lb := #[.pointer (some ⟨B, 0, none⟩)]) rfl trivial (enters_of Try.func110 (by kernel_rfl) rfl) HSq.out (fun h k => ⟨h.1.trans k.1, Nat.le_trans h.2 k.2⟩) (fun W' l o' hl => ⟨keepD_putObj (fun hd => by have := (HD.out _ hd).1; omega), (grownBy_putObj' W' l o').size⟩) (Below.refl _ _) (fun _ => rfl)
    (fun k W' => ∃ va vb, TwoB W (W.heap.size + 2) g4 g5 (psN ws k) (cpA midP l r ws mid (psN ws k)) (cpB midP l r ws mid (psN ws k)) va vb W')
    ?hI ⟨_, _, HT0.out⟩
    (fun k a' W' => ∃ s0, W.heap.size ≤ s0 ∧ W'.heap[s0]? = some (.cells #[.int .i64 (psN ws k : Nat), .int .i64 (psN ws (k + 1) : Nat)] 90 (0, 0)) ∧ a' = { tmps := #[.agg #[.slice (some ⟨g, 0, none⟩) 128 c, .slice sa sn sc], .func (.func 94) #[] #[.pointer (some ⟨m1, 0, none⟩), .pointer (some ⟨m1 + 1, 0, none⟩)], .pointer (some ⟨g2, 0, none⟩), .pointer (some ⟨g3, 0, none⟩), .pointer (some ⟨g4, 0, none⟩), .pointer (some ⟨g5, 0, none⟩), .int .i64 (k : Nat), .pointer (some ⟨s0, 0, none⟩), undef, undef, .agg #[.slice (some ⟨g, 0, none⟩) 128 c, .slice sa sn sc], .func (.func 110) #[] #[.pointer (some ⟨B, 0, none⟩)], .int .i64 (k : Nat), .agg #[.int .i64 (psN ws k : Nat), .int .i64 (psN ws (k + 1) : Nat)], undef, undef, undef, undef, undef, undef, undef, undef, undef, undef, undef, undef, undef, undef, undef, undef, undef, undef, undef, undef, undef, undef, undef, undef, undef, undef, undef, undef, undef], defers := [] }) ?hAx ?assign ?body ?done)
  case hI =>
    rintro s A B' row ⟨va, vb, h1⟩ hg hr
    exact ⟨va, vb, h1.own (by have := HSz.out; have := HG5.out; omega) (by have := HSz.out; omega) rfl hg hr⟩
  case hAx =>
    rintro x a' _ A A' row ⟨s0, h0, h1, h2⟩ hg hr
    refine ⟨s0, h0, (hg.block _ (lt_of_block h1) (fun e => ?_)).trans h1, h2⟩
    obtain ⟨_, o, ho, hc⟩ := hr _ e.symm
    rw [h1] at ho; cases ho; cases hc
  case assign =>
    rintro l' k V K ⟨va, vb, ht⟩ hk hK
    obtain ⟨F, hF⟩ : ∃ F, psN ws k = F := ⟨_, rfl⟩
    obtain ⟨T, hT⟩ : ∃ T, psN ws (k + 1) = T := ⟨_, rfl⟩
    simp only [encB, hF, hT] at hK ⊢
    have uA : Upd NoB V (V.alloc (.cells #[.int .i64 F, .int .i64 T] 90)) := (Upd.refl _ _).alloc _
    have HKh := Lib.hid @hK
    have HsV := Lib.hid ht.u.size
    rw [hF] at ht
    clear hK hF hT
    gi_wp2
    exact HKh.out _ _ (keeps_of_upd uA (fun _ _ h => h)) ⟨⟨uA.keepD (fun j hj => ⟨by have := (HD.out j hj).1; have := HsV.out; omega, fun h => h⟩), uA.size⟩, fun j h1 h2 => by omega⟩ ⟨va, vb, ht.later uA⟩ ⟨_, HsV.out, heap_alloc_new V _, rfl⟩
  case body =>
    rintro l' k a' V ⟨va, vb, ht⟩ ⟨s0, hs0, hms, rfl⟩ hVs hk
    obtain ⟨x, hx, x1, x8, hs, hs8⟩ := HWg.out k hk
    have hAtk := fun j (hj : j < x) => HAt.out k x j hx hj
    obtain ⟨f, hf⟩ : ∃ f, psN ws k = f := ⟨_, rfl⟩
    obtain ⟨t, ht'⟩ : ∃ t, f + x = t := ⟨_, rfl⟩
    simp only [hs, hf, ht'] at hms hAtk ht hs8 ⊢
    have hsl := fun Z => run_slice_pr Z g 128 c f t (by omega) (by omega) (by omega)
    rw [show t - f = x by omega] at hsl
    have hg5W : g4 < W.heap.size ∧ g5 < W.heap.size ∧ g4 ≠ g5 ∧ g2 < g4 ∧ g3 < g4 ∧ g4 < g5 ∧ g < g2 ∧ m1 + 1 < g2 := by have := HSz.out; have := HG5.out; have := HG4.out; have := HG3.out; have := HMlt.out; have := HgW.out; omega
    have h2V := ht.u.heap HB0.out (by omega)
    have k1 : V.cell? ⟨g2, 0, none⟩ = some (.slice (some ⟨g, 0, none⟩) 128 c) := blk_cell h2V 0
    have k2 : V.cell? ⟨s0, 0, none⟩ = some (.int .i64 (f : Int)) := blk_cell hms 0
    have k3 : V.cell? ⟨s0, 1, none⟩ = some (.int .i64 (t : Int)) := blk_cell hms 1
    have HAtk := Lib.hid hAtk; have HTt := Lib.hid ht'; have HT := Lib.hid ht; have HVs := Lib.hid hVs; have HK := Lib.hid hk; have HGs := Lib.hid hg5W; have HFx := Lib.hid hs8; have HPs := Lib.hid (show psN ws (k + 1) = t by rw [hs, hf]; exact ht')
    have hx8 : x ≤ 128 := x8
    clear hms ht hVs hx hs hf ht' h2V hAtk hs0 hk hg5W hs8 x8
    gi_wp2
    gi_loopw [9, 22] (fun q9 i wr => ∃ (j : Nat) (va vb : Value), j ≤ x ∧ i = .int .i64 (j : Int) ∧ TwoB W (W.heap.size + 2) g4 g5 (f + j) (cpA midP l r ws mid (f + j)) (cpB midP l r ws mid (f + j)) va vb wr ∧ KeepsFrom W.heap.size V wr ∧ KeepD (bandD B (.slice sa sn sc)) V wr ∧ V.heap.size ≤ wr.heap.size) (fun _ i _ => x - (intOf i).toNat)
    case atStart => exact ⟨0, va, vb, Nat.zero_le _, rfl, HT.out, KeepsFrom.refl _ _, KeepD.refl _ _, Nat.le_refl _⟩
    case round =>
      obtain ⟨j, va, vb, hj, rfl, ht, hkf, hkd, hvs⟩ := hrel
      by_cases hlt : j < x
      · obtain ⟨va0, vc, rfl⟩ := row_form ht.ra
        obtain ⟨vb0, vd, rfl⟩ := row_form ht.rb
        have hGs := HGs.out
        have hpV : PrsA wr g 0 (P2 l r) 128 := HP.out.upd ht.u (by omega)
        have hFx := HFx.out
        have hTt := HTt.out
        obtain ⟨c0, c1⟩ := (hpV.sub (f := f) (x := x) (by omega)) j hlt
        have HCh := Lib.hid (fun Z (u : Upd NoB wr Z) => chM_any m1 (m1 + 1) ma N mc k mid (P2 l r (f + j)) Z (HPi.out _) (u.cell (ht.u.cell HM1.out (by show ¬ (m1 = g4 ∨ m1 = g5); omega)) (noB _)) (u.cell (ht.u.cell HM2.out (by show ¬ (m1 + 1 = g4 ∨ m1 + 1 = g5); omega)) (noB _)) ((HBl.out.upd ht.u (fun _ b hb e => by have := HBlt.out b hb; omega)).later u) HK.out HKl.out)
        have hat := HAtk.out j hlt
        rw [← hat] at HCh
        have hsa := HSA.out (f + j); have hsb := HSB.out (f + j)
        have h3V := ht.u.heap HB1.out (by omega)
        have k4 : wr.cell? ⟨g3, 0, none⟩ = some (.func (.func 94) #[] #[.pointer (some ⟨m1, 0, none⟩), .pointer (some ⟨m1 + 1, 0, none⟩)]) := blk_cell h3V 0
        generalize cpP midP l r ws mid (f + j) = pr at *
        obtain ⟨X, hX⟩ : ∃ X, pr.1 = X := ⟨_, rfl⟩
        obtain ⟨Y, hY⟩ : ∃ Y, pr.2 = Y := ⟨_, rfl⟩
        rw [hX] at HCh hsa
        rw [hY] at HCh hsb
        generalize (P2 l r (f + j)).1 = x0 at *
        generalize (P2 l r (f + j)).2 = y0 at *
        have u7 : Upd NoB wr (wr.alloc (.cells #[.int .i64 x0, .int .i64 y0] 66)) := (Upd.refl _ _).alloc _
        have k5 := u7.cell k4 (noB _)
        have N7 := Lib.hid (heap_alloc_new wr (.cells #[.int .i64 x0, .int .i64 y0] 66))
        have HTr := Lib.hid ht; have HKf := Lib.hid hkf; have HKd := Lib.hid hkd; have HVw := Lib.hid hvs; have HSa := Lib.hid hsa; have HSb := Lib.hid hsb; have U7 := Lib.hid u7; have HPr := Lib.hid hX; have HPr2 := Lib.hid hY; have HGs2 := Lib.hid hGs; have HJ := Lib.hid hlt
        have p1 : (j : Int) < (x : Int) := by omega
        clear ht hkf hkd hvs hGs hpV hat hsa hsb h3V hX hY u7 hFx hTt k1 k2 k3
        gi_wp2
        refine ⟨trivial, rfl, ?_⟩
        (with_reducible refine ((callsIn_wide.2 (HCh.out _ U7.out)).inRound l').mono ?_)
        rintro e w4 ⟨rfl, u4⟩
        obtain ⟨q9, hq9⟩ : ∃ q, wr.heap.size = q := ⟨_, rfl⟩
        rw [hq9] at N7 ⊢
        have hb4 := u4.heap N7.out (noB _)
        have g0 := cell_of_block0 hb4
        have g1 := cell_of_block1 hb4
        have f0 := free_of_block hb4 0
        have f1 := free_of_block hb4 1
        have us : Upd (fun j => j = q9) w4 ((w4.setCell ⟨q9, 0, none⟩ (.int .i64 X)).setCell ⟨q9, 1, none⟩ (.int .i64 Y)) := ((Upd.refl (fun j => j = q9) w4).setCell (p := ⟨q9, 0, none⟩) _ (fun _ => rfl)).setCell (p := ⟨q9, 1, none⟩) _ (fun _ => rfl)
        have uw4 : Upd NoB wr w4 := U7.out.then u4
        have hsW := HTr.out.u.size
        have ht5 := (HTr.out.later uw4).other us (by have := HGs2.out; omega) (by have := HGs2.out; omega) (by omega) (fun i hi => by
          rcases hi with hi | hi
          · have := (HTr.out.ra.lt i hi).2; omega
          · have := (HTr.out.rb.lt i hi).2; omega)
        have u5 : Upd NoB wr ((w4.setCell ⟨q9, 0, none⟩ (.int .i64 X)).setCell ⟨q9, 1, none⟩ (.int .i64 Y)) := uw4.trans us (fun i hi e => absurd hi (by have e : i = q9 := e; omega))
        have hb5 : ((w4.setCell ⟨q9, 0, none⟩ (.int .i64 X)).setCell ⟨q9, 1, none⟩ (.int .i64 Y)).heap[q9]? = some (.cells #[.int .i64 X, .int .i64 Y] 66 (0, 0)) := heap_cell2 hb4
        have HT5 := Lib.hid ht5; have U5 := Lib.hid u5; have HB5 := Lib.hid hb5; have HQ9 := Lib.hid (show W.heap.size ≤ q9 by omega)
        clear us uw4 hsW ht5 u5 hb4 u4 hq9 hb5 c0 c1 k4 k5
        gi_wp2
        generalize (w4.setCell ⟨q9, 0, none⟩ (.int .i64 X)).setCell ⟨q9, 1, none⟩ (.int .i64 Y) = w5 at *
        obtain ⟨n, hn⟩ : ∃ n, f + j = n := ⟨_, rfl⟩
        have HNn := Lib.hid hn
        rw [hn] at HT5 HSa HSb HTr
        generalize cpA midP l r ws mid n = xs at *
        generalize cpB midP l r ws mid n = ys at *
        have hS0 := blk_cell HT5.out.ha 0
        have hS1 := blk_cell HT5.out.hb 0
        have hS2 := cell_of_block0 HB5.out
        have hS3 := cell_of_block1 HB5.out
        have HSZ := Lib.hid (show ∀ Z, Upd NoB w5 Z → Z.cell? ⟨g4, 0, none⟩ = some (.slice va0 n vc) ∧ Z.cell? ⟨g5, 0, none⟩ = some (.slice vb0 n vd) ∧ Z.cell? ⟨q9, 0, none⟩ = some (.int .i64 X) ∧ Z.cell? ⟨q9, 1, none⟩ = some (.int .i64 Y) from fun Z u => ⟨u.cell hS0 (noB _), u.cell hS1 (noB _), u.cell hS2 (noB _), u.cell hS3 (noB _)⟩)
        have U0 := Lib.hid (show Upd NoB w5 w5.drew from (Upd.refl NoB w5).drew)
        have C3 := Lib.hid (show n + 1 ≤ maxLen by have := HFx.out; have := HTt.out; have := HJ.out; unfold maxLen; omega)
        have C4 := Lib.hid (show (n + 1) * 8 ≤ 140737488355328 by have := HFx.out; have := HTt.out; have := HJ.out; omega)
        have HVs5 := Lib.hid (show W.heap.size + 2 ≤ w5.heap.size by have := HVs.out; have := HVw.out; have := U5.out.size; omega)
        have hnq : ∀ i, (Value.slice va0 n vc).ownBlock = some i ∨ (Value.slice vb0 n vd).ownBlock = some i → i ≠ q9 := fun i hi e => by
          subst e
          rcases hi with hi | hi
          · exact row_ne HT5.out.ra HB5.out (by decide) hi
          · exact row_ne HT5.out.rb HB5.out (by decide) hi
        have HMid := Lib.hid (show ∀ (Z1 w6 : World) (g6 c6 : Nat), Upd NoB w5 Z1 → Z1.grownBy w6 (Value.slice va0 n vc).ownBlock → ((Value.slice va0 n vc).ownBlock = some g6 ∨ g6 = Z1.heap.size) →
            (∀ Z, Upd NoB w6 Z → Z.cell? ⟨g4, 0, none⟩ = some (.slice va0 n vc) ∧ Z.cell? ⟨g5, 0, none⟩ = some (.slice vb0 n vd) ∧ Z.cell? ⟨q9, 0, none⟩ = some (.int .i64 X) ∧ Z.cell? ⟨q9, 1, none⟩ = some (.int .i64 Y)) ∧ w6.ownsRow (W.heap.size + 2) 3 1 (.slice vb0 n vd) n (i64s ys) ∧ W.heap.size + 2 ≤ w6.heap.size from fun Z1 w6 g6 c6 u1 hg hat => by
          obtain ⟨a1, a2, a3, a4, _⟩ := two_first (c6 := c6) (by omega) HGs2.out.1 HGs2.out.2.1 HT5.out u1 hg hat
          have b2 := a1.cell hS2 (fun e => hnq _ (.inl e) rfl)
          have b3 := a1.cell hS3 (fun e => hnq _ (.inl e) rfl)
          exact ⟨fun Z u => ⟨u.cell (blk_cell a3 0) (noB _), u.cell (blk_cell a4 0) (noB _), u.cell b2 (noB _), u.cell b3 (noB _)⟩, a2, Nat.le_trans HVs5.out a1.size⟩)
        have HCa := Lib.hid (show ∀ (Z1 w6 : World) (b : Nat) (o : Obj), Upd NoB w5 Z1 → Z1.grownBy w6 (Value.slice va0 n vc).ownBlock → w5.heap.size ≤ b → Z1.heap[b]? = some o → w6.heap[b]? = some o from fun Z1 w6 b o u1 hg hb ho =>
          (hg.block b (lt_of_block ho) (fun e => by have := (HT5.out.ra.lt b e.symm).2; omega)).trans ho)
        have HFin := Lib.hid (show ∀ (Z1 w6 : World) (g6 c6 : Nat), Upd NoB w5 Z1 → w6.ownsRow (W.heap.size + 2) 3 1 (.slice (some ⟨g6, 0, none⟩) (n + 1) c6) (n + 1) (i64s xs ++ [.int .i64 X]) → Z1.grownBy w6 (Value.slice va0 n vc).ownBlock → ((Value.slice va0 n vc).ownBlock = some g6 ∨ g6 = Z1.heap.size) →
            ∀ (Z2 w9 : World) (g8 c8 : Nat), Upd NoB w6 Z2 → w9.ownsRow (W.heap.size + 2) 3 1 (.slice (some ⟨g8, 0, none⟩) (n + 1) c8) (n + 1) (i64s ys ++ [.int .i64 Y]) → Z2.grownBy w9 (Value.slice vb0 n vd).ownBlock → ((Value.slice vb0 n vd).ownBlock = some g8 ∨ g8 = Z2.heap.size) →
            (w9.cell? ⟨g4, 0, none⟩ = some (.slice va0 n vc) ∧ w9.cell? ⟨g5, 0, none⟩ = some (.slice vb0 n vd) ∧ w9.cell? ⟨q9, 0, none⟩ = some (.int .i64 X) ∧ w9.cell? ⟨q9, 1, none⟩ = some (.int .i64 Y)) ∧
            (w9.heap[g4]? = some (.cells #[.slice va0 n vc] 22 (0, 0)) ∧ w9.heap[g5]? = some (.cells #[.slice vb0 n vd] 22 (0, 0))) ∧
            TwoB W (W.heap.size + 2) g4 g5 (n + 1) (xs ++ [X]) (ys ++ [Y]) (.slice (some ⟨g6, 0, none⟩) (n + 1) c6) (.slice (some ⟨g8, 0, none⟩) (n + 1) c8) ((w9.setCell ⟨g4, 0, none⟩ (.slice (some ⟨g6, 0, none⟩) (n + 1) c6)).setCell ⟨g5, 0, none⟩ (.slice (some ⟨g8, 0, none⟩) (n + 1) c8)) ∧
            Upd (fun j => ((Value.slice va0 n vc).ownBlock = some j ∨ (Value.slice vb0 n vd).ownBlock = some j) ∨ j = g4 ∨ j = g5) w5 ((w9.setCell ⟨g4, 0, none⟩ (.slice (some ⟨g6, 0, none⟩) (n + 1) c6)).setCell ⟨g5, 0, none⟩ (.slice (some ⟨g8, 0, none⟩) (n + 1) c8)) from fun Z1 w6 g6 c6 u1 hown hg hat Z2 w9 g8 c8 u2 hown2 hg2 hat2 => by
          obtain ⟨⟨e4, e5⟩, e6, e7, e8⟩ := two_end (by omega) HGs2.out.1 HGs2.out.2.1 HGs2.out.2.2.1 HT5.out u1 hown hg hat u2 hown2 hg2 hat2
          exact ⟨⟨blk_cell e4 0, blk_cell e5 0, e7.cell hS2 (fun e => hnq _ e rfl), e7.cell hS3 (fun e => hnq _ e rfl)⟩, ⟨e4, e5⟩, e6, e8⟩)
        have HRel := Lib.hid (show ∀ Z, Upd (fun j => ((Value.slice va0 n vc).ownBlock = some j ∨ (Value.slice vb0 n vd).ownBlock = some j) ∨ j = g4 ∨ j = g5) w5 Z → KeepsFrom W.heap.size wr Z ∧ KeepD (bandD B (.slice sa sn sc)) wr Z ∧ wr.heap.size ≤ Z.heap.size from fun Z uZ => by
          have uall := (U5.out.mono (T := fun j => ((Value.slice va0 n vc).ownBlock = some j ∨ (Value.slice vb0 n vd).ownBlock = some j) ∨ j = g4 ∨ j = g5) (fun _ _ h => h.elim)).trans uZ (fun _ _ h => h)
          have hsW := HTr.out.u.size
          refine ⟨KeepsFrom.of_two uall (fun i hi => ?_), uall.keepD (fun i hi => ?_), uall.size⟩
          · rcases hi with (hi | hi) | hi | hi
            · obtain ⟨c, f, h⟩ := row_notcells HTr.out.ra hi; exact ⟨c, _, f, h⟩
            · obtain ⟨c, f, h⟩ := row_notcells HTr.out.rb hi; exact ⟨c, _, f, h⟩
            · subst hi; exact ⟨_, _, _, HTr.out.ha⟩
            · subst hi; exact ⟨_, _, _, HTr.out.hb⟩
          · have hd := HD.out i hi
            refine ⟨by omega, fun e => ?_⟩
            rcases e with (e | e) | e | e
            · have := (HTr.out.ra.lt i e).1; omega
            · have := (HTr.out.rb.lt i e).1; omega
            · exact hd.2.1 e
            · exact hd.2.2 e)
        rw [← HNn.out] at hS0
        clear hS0 hS1 hS2 hS3 hnq hn
        refine region_split_in 10 (fun Z => Z.cell? ⟨g4, 0, none⟩ = some (.slice va0 n vc) ∧ Z.cell? ⟨g5, 0, none⟩ = some (.slice vb0 n vd) ∧ Z.cell? ⟨q9, 0, none⟩ = some (.int .i64 X) ∧ Z.cell? ⟨q9, 1, none⟩ = some (.int .i64 Y)) (by kernel_rfl) (by kernel_rfl) (fun ⟨_, _, h⟩ => h) (by decide) (by kernel_rfl) (by kernel_rfl) (by kernel_rfl) ?_
        simp only [List.take_succ_cons, List.take_zero, List.drop_succ_cons, List.drop_zero]
        change wpAnyH _ _ _ _ _ 10 #[false, false, false, false, false, false, false, false, false, false] { tmps := #[.agg #[.slice (some ⟨g, 0, none⟩) 128 c, .slice sa sn sc], .func (.func 94) #[] #[.pointer (some ⟨m1, 0, none⟩), .pointer (some ⟨m1 + 1, 0, none⟩)], .pointer (some ⟨g2, 0, none⟩), .pointer (some ⟨g3, 0, none⟩), .pointer (some ⟨g4, 0, none⟩), .pointer (some ⟨g5, 0, none⟩), .int .i64 (k : Nat), .pointer (some ⟨s0, 0, none⟩), undef, .pointer (some ⟨q9, 0, none⟩), .agg #[.slice (some ⟨g, 0, none⟩) 128 c, .slice sa sn sc], .func (.func 110) #[] #[.pointer (some ⟨B, 0, none⟩)], .int .i64 (k : Nat), .agg #[.int .i64 (f : Nat), .int .i64 (t : Nat)], .pointer (some ⟨g2, 0, none⟩), .slice (some ⟨g, 0, none⟩) 128 c, .pointer (some ⟨s0, 0, none⟩), .int .i64 (f : Nat), .pointer (some ⟨s0, 1, none⟩), .int .i64 (t : Nat), .slice (some ⟨g, f * 2, none⟩) x (c - f), .int .i64 (x : Nat), .int .i64 (j : Nat), .bool true, .pointer (some ⟨g, f * 2 + j * 2, none⟩), .agg #[.int .i64 x0, .int .i64 y0], .func (.func 94) #[] #[.pointer (some ⟨m1, 0, none⟩), .pointer (some ⟨m1 + 1, 0, none⟩)], .int .i64 (k : Nat), .agg #[.int .i64 x0, .int .i64 y0], .agg #[.int .i64 X, .int .i64 Y], u30, u31, u32, u33, u34, u35, u36, u37, u38, u39, u40, undef, undef], defers := [] } w5.drew
        refine wpAnyH_take (i := 0) (v := .slice va0 n vc) rfl (by kernel_rfl) (by kernel_rfl) (by kernel_rfl) (fun _ _ _ h => h) (Or.inl ⟨by rfl, fun Z hZ => ?_⟩) (HSZ.out _ U0.out) ?_
        · obtain ⟨k0, k1, k2, k3⟩ := hZ
          go_simp
        change wpAnyH _ _ _ _ _ 9 #[true, false, false, false, false, false, false, false, false, false] { tmps := #[.agg #[.slice (some ⟨g, 0, none⟩) 128 c, .slice sa sn sc], .func (.func 94) #[] #[.pointer (some ⟨m1, 0, none⟩), .pointer (some ⟨m1 + 1, 0, none⟩)], .pointer (some ⟨g2, 0, none⟩), .pointer (some ⟨g3, 0, none⟩), .pointer (some ⟨g4, 0, none⟩), .pointer (some ⟨g5, 0, none⟩), .int .i64 (k : Nat), .pointer (some ⟨s0, 0, none⟩), undef, .pointer (some ⟨q9, 0, none⟩), .agg #[.slice (some ⟨g, 0, none⟩) 128 c, .slice sa sn sc], .func (.func 110) #[] #[.pointer (some ⟨B, 0, none⟩)], .int .i64 (k : Nat), .agg #[.int .i64 (f : Nat), .int .i64 (t : Nat)], .pointer (some ⟨g2, 0, none⟩), .slice (some ⟨g, 0, none⟩) 128 c, .pointer (some ⟨s0, 0, none⟩), .int .i64 (f : Nat), .pointer (some ⟨s0, 1, none⟩), .int .i64 (t : Nat), .slice (some ⟨g, f * 2, none⟩) x (c - f), .int .i64 (x : Nat), .int .i64 (j : Nat), .bool true, .pointer (some ⟨g, f * 2 + j * 2, none⟩), .agg #[.int .i64 x0, .int .i64 y0], .func (.func 94) #[] #[.pointer (some ⟨m1, 0, none⟩), .pointer (some ⟨m1 + 1, 0, none⟩)], .int .i64 (k : Nat), .agg #[.int .i64 x0, .int .i64 y0], .agg #[.int .i64 X, .int .i64 Y], .slice va0 n vc, u31, u32, u33, u34, u35, u36, u37, u38, u39, u40, undef, undef], defers := [] } w5.drew
        refine wpAnyH_take (i := 1) (v := .pointer (some ⟨q9, 0, none⟩)) rfl (by kernel_rfl) (by kernel_rfl) (by kernel_rfl) (fun _ _ _ h => h) (Or.inl ⟨by rfl, fun Z hZ => ?_⟩) (HSZ.out _ U0.out) ?_
        · obtain ⟨k0, k1, k2, k3⟩ := hZ
          go_simp
        change wpAnyH _ _ _ _ _ 8 #[true, true, false, false, false, false, false, false, false, false] { tmps := #[.agg #[.slice (some ⟨g, 0, none⟩) 128 c, .slice sa sn sc], .func (.func 94) #[] #[.pointer (some ⟨m1, 0, none⟩), .pointer (some ⟨m1 + 1, 0, none⟩)], .pointer (some ⟨g2, 0, none⟩), .pointer (some ⟨g3, 0, none⟩), .pointer (some ⟨g4, 0, none⟩), .pointer (some ⟨g5, 0, none⟩), .int .i64 (k : Nat), .pointer (some ⟨s0, 0, none⟩), undef, .pointer (some ⟨q9, 0, none⟩), .agg #[.slice (some ⟨g, 0, none⟩) 128 c, .slice sa sn sc], .func (.func 110) #[] #[.pointer (some ⟨B, 0, none⟩)], .int .i64 (k : Nat), .agg #[.int .i64 (f : Nat), .int .i64 (t : Nat)], .pointer (some ⟨g2, 0, none⟩), .slice (some ⟨g, 0, none⟩) 128 c, .pointer (some ⟨s0, 0, none⟩), .int .i64 (f : Nat), .pointer (some ⟨s0, 1, none⟩), .int .i64 (t : Nat), .slice (some ⟨g, f * 2, none⟩) x (c - f), .int .i64 (x : Nat), .int .i64 (j : Nat), .bool true, .pointer (some ⟨g, f * 2 + j * 2, none⟩), .agg #[.int .i64 x0, .int .i64 y0], .func (.func 94) #[] #[.pointer (some ⟨m1, 0, none⟩), .pointer (some ⟨m1 + 1, 0, none⟩)], .int .i64 (k : Nat), .agg #[.int .i64 x0, .int .i64 y0], .agg #[.int .i64 X, .int .i64 Y], .slice va0 n vc, .pointer (some ⟨q9, 0, none⟩), u32, u33, u34, u35, u36, u37, u38, u39, u40, undef, undef], defers := [] } w5.drew
        refine wpAnyH_take (i := 2) (v := .int .i64 X) rfl (by kernel_rfl) (by kernel_rfl) (by kernel_rfl) (fun _ _ _ h => h) (Or.inl ⟨by rfl, fun Z hZ => ?_⟩) (HSZ.out _ U0.out) ?_
        · obtain ⟨k0, k1, k2, k3⟩ := hZ
          go_simp
        change wpAnyH _ _ _ _ _ 7 #[true, true, true, false, false, false, false, false, false, false] { tmps := #[.agg #[.slice (some ⟨g, 0, none⟩) 128 c, .slice sa sn sc], .func (.func 94) #[] #[.pointer (some ⟨m1, 0, none⟩), .pointer (some ⟨m1 + 1, 0, none⟩)], .pointer (some ⟨g2, 0, none⟩), .pointer (some ⟨g3, 0, none⟩), .pointer (some ⟨g4, 0, none⟩), .pointer (some ⟨g5, 0, none⟩), .int .i64 (k : Nat), .pointer (some ⟨s0, 0, none⟩), undef, .pointer (some ⟨q9, 0, none⟩), .agg #[.slice (some ⟨g, 0, none⟩) 128 c, .slice sa sn sc], .func (.func 110) #[] #[.pointer (some ⟨B, 0, none⟩)], .int .i64 (k : Nat), .agg #[.int .i64 (f : Nat), .int .i64 (t : Nat)], .pointer (some ⟨g2, 0, none⟩), .slice (some ⟨g, 0, none⟩) 128 c, .pointer (some ⟨s0, 0, none⟩), .int .i64 (f : Nat), .pointer (some ⟨s0, 1, none⟩), .int .i64 (t : Nat), .slice (some ⟨g, f * 2, none⟩) x (c - f), .int .i64 (x : Nat), .int .i64 (j : Nat), .bool true, .pointer (some ⟨g, f * 2 + j * 2, none⟩), .agg #[.int .i64 x0, .int .i64 y0], .func (.func 94) #[] #[.pointer (some ⟨m1, 0, none⟩), .pointer (some ⟨m1 + 1, 0, none⟩)], .int .i64 (k : Nat), .agg #[.int .i64 x0, .int .i64 y0], .agg #[.int .i64 X, .int .i64 Y], .slice va0 n vc, .pointer (some ⟨q9, 0, none⟩), .int .i64 X, u33, u34, u35, u36, u37, u38, u39, u40, undef, undef], defers := [] } w5.drew
        refine wpAnyH_take (i := 5) (v := .slice vb0 n vd) rfl (by kernel_rfl) (by kernel_rfl) (by kernel_rfl) (fun _ _ _ h => h) (Or.inl ⟨by rfl, fun Z hZ => ?_⟩) (HSZ.out _ U0.out) ?_
        · obtain ⟨k0, k1, k2, k3⟩ := hZ
          go_simp
        change wpAnyH _ _ _ _ _ 6 #[true, true, true, false, false, true, false, false, false, false] { tmps := #[.agg #[.slice (some ⟨g, 0, none⟩) 128 c, .slice sa sn sc], .func (.func 94) #[] #[.pointer (some ⟨m1, 0, none⟩), .pointer (some ⟨m1 + 1, 0, none⟩)], .pointer (some ⟨g2, 0, none⟩), .pointer (some ⟨g3, 0, none⟩), .pointer (some ⟨g4, 0, none⟩), .pointer (some ⟨g5, 0, none⟩), .int .i64 (k : Nat), .pointer (some ⟨s0, 0, none⟩), undef, .pointer (some ⟨q9, 0, none⟩), .agg #[.slice (some ⟨g, 0, none⟩) 128 c, .slice sa sn sc], .func (.func 110) #[] #[.pointer (some ⟨B, 0, none⟩)], .int .i64 (k : Nat), .agg #[.int .i64 (f : Nat), .int .i64 (t : Nat)], .pointer (some ⟨g2, 0, none⟩), .slice (some ⟨g, 0, none⟩) 128 c, .pointer (some ⟨s0, 0, none⟩), .int .i64 (f : Nat), .pointer (some ⟨s0, 1, none⟩), .int .i64 (t : Nat), .slice (some ⟨g, f * 2, none⟩) x (c - f), .int .i64 (x : Nat), .int .i64 (j : Nat), .bool true, .pointer (some ⟨g, f * 2 + j * 2, none⟩), .agg #[.int .i64 x0, .int .i64 y0], .func (.func 94) #[] #[.pointer (some ⟨m1, 0, none⟩), .pointer (some ⟨m1 + 1, 0, none⟩)], .int .i64 (k : Nat), .agg #[.int .i64 x0, .int .i64 y0], .agg #[.int .i64 X, .int .i64 Y], .slice va0 n vc, .pointer (some ⟨q9, 0, none⟩), .int .i64 X, u33, u34, .slice vb0 n vd, u36, u37, u38, u39, u40, undef, undef], defers := [] } w5.drew
        refine wpAnyH_take (i := 6) (v := .pointer (some ⟨q9, 1, none⟩)) rfl (by kernel_rfl) (by kernel_rfl) (by kernel_rfl) (fun _ _ _ h => h) (Or.inl ⟨by rfl, fun Z hZ => ?_⟩) (HSZ.out _ U0.out) ?_
        · obtain ⟨k0, k1, k2, k3⟩ := hZ
          go_simp
        change wpAnyH _ _ _ _ _ 5 #[true, true, true, false, false, true, true, false, false, false] { tmps := #[.agg #[.slice (some ⟨g, 0, none⟩) 128 c, .slice sa sn sc], .func (.func 94) #[] #[.pointer (some ⟨m1, 0, none⟩), .pointer (some ⟨m1 + 1, 0, none⟩)], .pointer (some ⟨g2, 0, none⟩), .pointer (some ⟨g3, 0, none⟩), .pointer (some ⟨g4, 0, none⟩), .pointer (some ⟨g5, 0, none⟩), .int .i64 (k : Nat), .pointer (some ⟨s0, 0, none⟩), undef, .pointer (some ⟨q9, 0, none⟩), .agg #[.slice (some ⟨g, 0, none⟩) 128 c, .slice sa sn sc], .func (.func 110) #[] #[.pointer (some ⟨B, 0, none⟩)], .int .i64 (k : Nat), .agg #[.int .i64 (f : Nat), .int .i64 (t : Nat)], .pointer (some ⟨g2, 0, none⟩), .slice (some ⟨g, 0, none⟩) 128 c, .pointer (some ⟨s0, 0, none⟩), .int .i64 (f : Nat), .pointer (some ⟨s0, 1, none⟩), .int .i64 (t : Nat), .slice (some ⟨g, f * 2, none⟩) x (c - f), .int .i64 (x : Nat), .int .i64 (j : Nat), .bool true, .pointer (some ⟨g, f * 2 + j * 2, none⟩), .agg #[.int .i64 x0, .int .i64 y0], .func (.func 94) #[] #[.pointer (some ⟨m1, 0, none⟩), .pointer (some ⟨m1 + 1, 0, none⟩)], .int .i64 (k : Nat), .agg #[.int .i64 x0, .int .i64 y0], .agg #[.int .i64 X, .int .i64 Y], .slice va0 n vc, .pointer (some ⟨q9, 0, none⟩), .int .i64 X, u33, u34, .slice vb0 n vd, .pointer (some ⟨q9, 1, none⟩), u37, u38, u39, u40, undef, undef], defers := [] } w5.drew
        refine wpAnyH_take (i := 7) (v := .int .i64 Y) rfl (by kernel_rfl) (by kernel_rfl) (by kernel_rfl) (fun _ _ _ h => h) (Or.inl ⟨by rfl, fun Z hZ => ?_⟩) (HSZ.out _ U0.out) ?_
        · obtain ⟨k0, k1, k2, k3⟩ := hZ
          go_simp
        change wpAnyH _ _ _ _ _ 4 #[true, true, true, false, false, true, true, true, false, false] { tmps := #[.agg #[.slice (some ⟨g, 0, none⟩) 128 c, .slice sa sn sc], .func (.func 94) #[] #[.pointer (some ⟨m1, 0, none⟩), .pointer (some ⟨m1 + 1, 0, none⟩)], .pointer (some ⟨g2, 0, none⟩), .pointer (some ⟨g3, 0, none⟩), .pointer (some ⟨g4, 0, none⟩), .pointer (some ⟨g5, 0, none⟩), .int .i64 (k : Nat), .pointer (some ⟨s0, 0, none⟩), undef, .pointer (some ⟨q9, 0, none⟩), .agg #[.slice (some ⟨g, 0, none⟩) 128 c, .slice sa sn sc], .func (.func 110) #[] #[.pointer (some ⟨B, 0, none⟩)], .int .i64 (k : Nat), .agg #[.int .i64 (f : Nat), .int .i64 (t : Nat)], .pointer (some ⟨g2, 0, none⟩), .slice (some ⟨g, 0, none⟩) 128 c, .pointer (some ⟨s0, 0, none⟩), .int .i64 (f : Nat), .pointer (some ⟨s0, 1, none⟩), .int .i64 (t : Nat), .slice (some ⟨g, f * 2, none⟩) x (c - f), .int .i64 (x : Nat), .int .i64 (j : Nat), .bool true, .pointer (some ⟨g, f * 2 + j * 2, none⟩), .agg #[.int .i64 x0, .int .i64 y0], .func (.func 94) #[] #[.pointer (some ⟨m1, 0, none⟩), .pointer (some ⟨m1 + 1, 0, none⟩)], .int .i64 (k : Nat), .agg #[.int .i64 x0, .int .i64 y0], .agg #[.int .i64 X, .int .i64 Y], .slice va0 n vc, .pointer (some ⟨q9, 0, none⟩), .int .i64 X, u33, u34, .slice vb0 n vd, .pointer (some ⟨q9, 1, none⟩), .int .i64 Y, u38, u39, u40, undef, undef], defers := [] } w5.drew
        refine wpAnyH_ready (rs := [3, 8]) (by kernel_rfl) (by simp) ?_
        refine AllReadyH.cons rfl (fun K hK => ?_) ?_
        · go_simp
          refine hK.out _ _ (HSZ.out _ (U0.out.alloc (.cells #[.int .i64 X] 3))) (fun _ => ?_)
          change wpAnyH _ _ _ _ _ 3 #[true, true, true, true, false, true, true, true, false, false] { tmps := #[.agg #[.slice (some ⟨g, 0, none⟩) 128 c, .slice sa sn sc], .func (.func 94) #[] #[.pointer (some ⟨m1, 0, none⟩), .pointer (some ⟨m1 + 1, 0, none⟩)], .pointer (some ⟨g2, 0, none⟩), .pointer (some ⟨g3, 0, none⟩), .pointer (some ⟨g4, 0, none⟩), .pointer (some ⟨g5, 0, none⟩), .int .i64 (k : Nat), .pointer (some ⟨s0, 0, none⟩), undef, .pointer (some ⟨q9, 0, none⟩), .agg #[.slice (some ⟨g, 0, none⟩) 128 c, .slice sa sn sc], .func (.func 110) #[] #[.pointer (some ⟨B, 0, none⟩)], .int .i64 (k : Nat), .agg #[.int .i64 (f : Nat), .int .i64 (t : Nat)], .pointer (some ⟨g2, 0, none⟩), .slice (some ⟨g, 0, none⟩) 128 c, .pointer (some ⟨s0, 0, none⟩), .int .i64 (f : Nat), .pointer (some ⟨s0, 1, none⟩), .int .i64 (t : Nat), .slice (some ⟨g, f * 2, none⟩) x (c - f), .int .i64 (x : Nat), .int .i64 (j : Nat), .bool true, .pointer (some ⟨g, f * 2 + j * 2, none⟩), .agg #[.int .i64 x0, .int .i64 y0], .func (.func 94) #[] #[.pointer (some ⟨m1, 0, none⟩), .pointer (some ⟨m1 + 1, 0, none⟩)], .int .i64 (k : Nat), .agg #[.int .i64 x0, .int .i64 y0], .agg #[.int .i64 X, .int .i64 Y], .slice va0 n vc, .pointer (some ⟨q9, 0, none⟩), .int .i64 X, .slice (some ⟨w5.heap.size, 0, none⟩) 1 1, u34, .slice vb0 n vd, .pointer (some ⟨q9, 1, none⟩), .int .i64 Y, u38, u39, u40, undef, undef], defers := [] } (w5.drew.alloc (.cells #[.int .i64 X] 3))
          refine wpAnyH_ready (rs := [4, 8]) (by kernel_rfl) (by simp) ?_
          refine AllReadyH.cons rfl (fun K hK => ?_) ?_
          · refine step_append_lies _ (by rfl) _ _ _ (by rfl) (W.heap.size + 2) 3 i0 (.int .i64 0) 1 8 Try.underlying22 hii hz0 hz1 hz2 (by rfl) (by decide) _ n (i64s xs) (by rfl) (by exact (U0.out.alloc (.cells #[.int .i64 X] 3)).row HT5.out.ra (fun q _ => noB q)) ⟨w5.heap.size, 0, none⟩ 1 1 [.int .i64 X] (by rfl) (by rfl) (by exact World.news_of_block (heap_alloc_new w5.drew (.cells #[.int .i64 X] 3))) (by intro q hq; rw [List.mem_singleton] at hq; subst hq; rfl) (by decide) C3.out C4.out (by exact Nat.le_trans HVs5.out (U0.out.alloc (.cells #[.int .i64 X] 3)).size) _ (by rfl) ?_
            intro g6 c6 w6 hown6 hg6 hat6 hlt6
            have HX := Lib.hid (HMid.out _ w6 g6 c6 (U0.out.alloc (.cells #[.int .i64 X] 3)) hg6 hat6)
            have HF := Lib.hid (HFin.out _ w6 g6 c6 (U0.out.alloc (.cells #[.int .i64 X] 3)) hown6 hg6 hat6)
            clear hown6 hg6 hat6 hlt6
            refine hK.out _ _ (HX.out.1 _ (Upd.refl NoB w6)) (fun _ => ?_)
            change wpAnyH _ _ _ _ _ 2 #[true, true, true, true, true, true, true, true, false, false] { tmps := #[.agg #[.slice (some ⟨g, 0, none⟩) 128 c, .slice sa sn sc], .func (.func 94) #[] #[.pointer (some ⟨m1, 0, none⟩), .pointer (some ⟨m1 + 1, 0, none⟩)], .pointer (some ⟨g2, 0, none⟩), .pointer (some ⟨g3, 0, none⟩), .pointer (some ⟨g4, 0, none⟩), .pointer (some ⟨g5, 0, none⟩), .int .i64 (k : Nat), .pointer (some ⟨s0, 0, none⟩), undef, .pointer (some ⟨q9, 0, none⟩), .agg #[.slice (some ⟨g, 0, none⟩) 128 c, .slice sa sn sc], .func (.func 110) #[] #[.pointer (some ⟨B, 0, none⟩)], .int .i64 (k : Nat), .agg #[.int .i64 (f : Nat), .int .i64 (t : Nat)], .pointer (some ⟨g2, 0, none⟩), .slice (some ⟨g, 0, none⟩) 128 c, .pointer (some ⟨s0, 0, none⟩), .int .i64 (f : Nat), .pointer (some ⟨s0, 1, none⟩), .int .i64 (t : Nat), .slice (some ⟨g, f * 2, none⟩) x (c - f), .int .i64 (x : Nat), .int .i64 (j : Nat), .bool true, .pointer (some ⟨g, f * 2 + j * 2, none⟩), .agg #[.int .i64 x0, .int .i64 y0], .func (.func 94) #[] #[.pointer (some ⟨m1, 0, none⟩), .pointer (some ⟨m1 + 1, 0, none⟩)], .int .i64 (k : Nat), .agg #[.int .i64 x0, .int .i64 y0], .agg #[.int .i64 X, .int .i64 Y], .slice va0 n vc, .pointer (some ⟨q9, 0, none⟩), .int .i64 X, .slice (some ⟨w5.heap.size, 0, none⟩) 1 1, .slice (some ⟨g6, 0, none⟩) (n + 1) c6, .slice vb0 n vd, .pointer (some ⟨q9, 1, none⟩), .int .i64 Y, u38, u39, u40, undef, undef], defers := [] } w6
            refine wpAnyH_ready (rs := [8]) (by kernel_rfl) (by simp) ?_
            refine AllReadyH.cons rfl (fun K hK => ?_) ?_
            · go_simp
              refine hK.out _ _ (HX.out.1 _ ((Upd.refl NoB w6).alloc (.cells #[.int .i64 Y] 3))) (fun _ => ?_)
              change wpAnyH _ _ _ _ _ 1 #[true, true, true, true, true, true, true, true, true, false] { tmps := #[.agg #[.slice (some ⟨g, 0, none⟩) 128 c, .slice sa sn sc], .func (.func 94) #[] #[.pointer (some ⟨m1, 0, none⟩), .pointer (some ⟨m1 + 1, 0, none⟩)], .pointer (some ⟨g2, 0, none⟩), .pointer (some ⟨g3, 0, none⟩), .pointer (some ⟨g4, 0, none⟩), .pointer (some ⟨g5, 0, none⟩), .int .i64 (k : Nat), .pointer (some ⟨s0, 0, none⟩), undef, .pointer (some ⟨q9, 0, none⟩), .agg #[.slice (some ⟨g, 0, none⟩) 128 c, .slice sa sn sc], .func (.func 110) #[] #[.pointer (some ⟨B, 0, none⟩)], .int .i64 (k : Nat), .agg #[.int .i64 (f : Nat), .int .i64 (t : Nat)], .pointer (some ⟨g2, 0, none⟩), .slice (some ⟨g, 0, none⟩) 128 c, .pointer (some ⟨s0, 0, none⟩), .int .i64 (f : Nat), .pointer (some ⟨s0, 1, none⟩), .int .i64 (t : Nat), .slice (some ⟨g, f * 2, none⟩) x (c - f), .int .i64 (x : Nat), .int .i64 (j : Nat), .bool true, .pointer (some ⟨g, f * 2 + j * 2, none⟩), .agg #[.int .i64 x0, .int .i64 y0], .func (.func 94) #[] #[.pointer (some ⟨m1, 0, none⟩), .pointer (some ⟨m1 + 1, 0, none⟩)], .int .i64 (k : Nat), .agg #[.int .i64 x0, .int .i64 y0], .agg #[.int .i64 X, .int .i64 Y], .slice va0 n vc, .pointer (some ⟨q9, 0, none⟩), .int .i64 X, .slice (some ⟨w5.heap.size, 0, none⟩) 1 1, .slice (some ⟨g6, 0, none⟩) (n + 1) c6, .slice vb0 n vd, .pointer (some ⟨q9, 1, none⟩), .int .i64 Y, .slice (some ⟨w6.heap.size, 0, none⟩) 1 1, u39, u40, undef, undef], defers := [] } (w6.alloc (.cells #[.int .i64 Y] 3))
              refine wpAnyH_ready (rs := [9]) (by kernel_rfl) (by simp) ?_
              refine AllReadyH.cons rfl (fun K hK => ?_) ?_
              · refine step_append_lies _ (by rfl) _ _ _ (by rfl) (W.heap.size + 2) 3 i0 (.int .i64 0) 1 8 Try.underlying22 hii hz0 hz1 hz2 (by rfl) (by decide) _ n (i64s ys) (by rfl) (by exact ((Upd.refl NoB w6).alloc (.cells #[.int .i64 Y] 3)).row HX.out.2.1 (fun q _ => noB q)) ⟨w6.heap.size, 0, none⟩ 1 1 [.int .i64 Y] (by rfl) (by rfl) (by exact World.news_of_block (heap_alloc_new w6 (.cells #[.int .i64 Y] 3))) (by intro q hq; rw [List.mem_singleton] at hq; subst hq; rfl) (by decide) C3.out C4.out (by exact Nat.le_trans HX.out.2.2 ((Upd.refl NoB w6).alloc (.cells #[.int .i64 Y] 3)).size) _ (by rfl) ?_
                intro g8 c8 w9 hown9 hg9 hat9 hlt9
                have HE := Lib.hid (HF.out _ w9 g8 c8 ((Upd.refl NoB w6).alloc (.cells #[.int .i64 Y] 3)) hown9 hg9 hat9)
                clear hown9 hg9 hat9 hlt9
                refine hK.out _ _ HE.out.1 (fun _ => ?_)
                change wpAnyH _ _ _ _ _ 0 #[true, true, true, true, true, true, true, true, true, true] { tmps := #[.agg #[.slice (some ⟨g, 0, none⟩) 128 c, .slice sa sn sc], .func (.func 94) #[] #[.pointer (some ⟨m1, 0, none⟩), .pointer (some ⟨m1 + 1, 0, none⟩)], .pointer (some ⟨g2, 0, none⟩), .pointer (some ⟨g3, 0, none⟩), .pointer (some ⟨g4, 0, none⟩), .pointer (some ⟨g5, 0, none⟩), .int .i64 (k : Nat), .pointer (some ⟨s0, 0, none⟩), undef, .pointer (some ⟨q9, 0, none⟩), .agg #[.slice (some ⟨g, 0, none⟩) 128 c, .slice sa sn sc], .func (.func 110) #[] #[.pointer (some ⟨B, 0, none⟩)], .int .i64 (k : Nat), .agg #[.int .i64 (f : Nat), .int .i64 (t : Nat)], .pointer (some ⟨g2, 0, none⟩), .slice (some ⟨g, 0, none⟩) 128 c, .pointer (some ⟨s0, 0, none⟩), .int .i64 (f : Nat), .pointer (some ⟨s0, 1, none⟩), .int .i64 (t : Nat), .slice (some ⟨g, f * 2, none⟩) x (c - f), .int .i64 (x : Nat), .int .i64 (j : Nat), .bool true, .pointer (some ⟨g, f * 2 + j * 2, none⟩), .agg #[.int .i64 x0, .int .i64 y0], .func (.func 94) #[] #[.pointer (some ⟨m1, 0, none⟩), .pointer (some ⟨m1 + 1, 0, none⟩)], .int .i64 (k : Nat), .agg #[.int .i64 x0, .int .i64 y0], .agg #[.int .i64 X, .int .i64 Y], .slice va0 n vc, .pointer (some ⟨q9, 0, none⟩), .int .i64 X, .slice (some ⟨w5.heap.size, 0, none⟩) 1 1, .slice (some ⟨g6, 0, none⟩) (n + 1) c6, .slice vb0 n vd, .pointer (some ⟨q9, 1, none⟩), .int .i64 Y, .slice (some ⟨w6.heap.size, 0, none⟩) 1 1, .slice (some ⟨g8, 0, none⟩) (n + 1) c8, u40, undef, undef], defers := [] } w9
                refine wpAnyH_done (by kernel_rfl) ?_ _
                change wpList _ _ _ _ _ w9
                obtain ⟨⟨e4, e5⟩, ht11, u11⟩ := HE.out.2
                have m4 := blk_cell e4 0
                have mf4 := blk_free e4 0
                have m5 := blk_cell e5 0
                have mf5 := blk_free e5 0
                have hne : g4 ≠ g5 := HGs2.out.2.2.1
                have HT11 := Lib.hid ht11
                have U11 := Lib.hid (HRel.out _ u11)
                clear e4 e5 ht11 u11
                repeat clear hK K
                go_wp2_with fail
                gi_wp2
                go_roundw
                case rel => exact ⟨j + 1, _, _, by have := HJ.out; omega, by go_num, by rw [← Nat.add_assoc, HNn.out, HSa.out, HSb.out]; exact HT11.out, HKf.out.trans U11.out.1, HKd.out.trans U11.out.2.1, Nat.le_trans HVw.out U11.out.2.2⟩
                case measure => have := HJ.out; simp [intOf]; omega
              exact AllReadyH.nil
            exact AllReadyH.nil
          refine AllReadyH.cons rfl (fun K hK => ?_) ?_
          · go_simp
            refine hK.out _ _ (HSZ.out _ ((U0.out.alloc (.cells #[.int .i64 X] 3)).alloc (.cells #[.int .i64 Y] 3))) (fun _ => ?_)
            change wpAnyH _ _ _ _ _ 2 #[true, true, true, true, false, true, true, true, true, false] { tmps := #[.agg #[.slice (some ⟨g, 0, none⟩) 128 c, .slice sa sn sc], .func (.func 94) #[] #[.pointer (some ⟨m1, 0, none⟩), .pointer (some ⟨m1 + 1, 0, none⟩)], .pointer (some ⟨g2, 0, none⟩), .pointer (some ⟨g3, 0, none⟩), .pointer (some ⟨g4, 0, none⟩), .pointer (some ⟨g5, 0, none⟩), .int .i64 (k : Nat), .pointer (some ⟨s0, 0, none⟩), undef, .pointer (some ⟨q9, 0, none⟩), .agg #[.slice (some ⟨g, 0, none⟩) 128 c, .slice sa sn sc], .func (.func 110) #[] #[.pointer (some ⟨B, 0, none⟩)], .int .i64 (k : Nat), .agg #[.int .i64 (f : Nat), .int .i64 (t : Nat)], .pointer (some ⟨g2, 0, none⟩), .slice (some ⟨g, 0, none⟩) 128 c, .pointer (some ⟨s0, 0, none⟩), .int .i64 (f : Nat), .pointer (some ⟨s0, 1, none⟩), .int .i64 (t : Nat), .slice (some ⟨g, f * 2, none⟩) x (c - f), .int .i64 (x : Nat), .int .i64 (j : Nat), .bool true, .pointer (some ⟨g, f * 2 + j * 2, none⟩), .agg #[.int .i64 x0, .int .i64 y0], .func (.func 94) #[] #[.pointer (some ⟨m1, 0, none⟩), .pointer (some ⟨m1 + 1, 0, none⟩)], .int .i64 (k : Nat), .agg #[.int .i64 x0, .int .i64 y0], .agg #[.int .i64 X, .int .i64 Y], .slice va0 n vc, .pointer (some ⟨q9, 0, none⟩), .int .i64 X, .slice (some ⟨w5.heap.size, 0, none⟩) 1 1, u34, .slice vb0 n vd, .pointer (some ⟨q9, 1, none⟩), .int .i64 Y, .slice (some ⟨w5.heap.size + 1, 0, none⟩) 1 1, u39, u40, undef, undef], defers := [] } ((w5.drew.alloc (.cells #[.int .i64 X] 3)).alloc (.cells #[.int .i64 Y] 3))
            refine wpAnyH_ready (rs := [4]) (by kernel_rfl) (by simp) ?_
            refine AllReadyH.cons rfl (fun K hK => ?_) ?_
            · refine step_append_lies _ (by rfl) _ _ _ (by rfl) (W.heap.size + 2) 3 i0 (.int .i64 0) 1 8 Try.underlying22 hii hz0 hz1 hz2 (by rfl) (by decide) _ n (i64s xs) (by rfl) (by exact ((U0.out.alloc (.cells #[.int .i64 X] 3)).alloc (.cells #[.int .i64 Y] 3)).row HT5.out.ra (fun q _ => noB q)) ⟨w5.heap.size, 0, none⟩ 1 1 [.int .i64 X] (by rfl) (by rfl) (by exact World.news_of_block ((boxes2 w5.drew (.cells #[.int .i64 X] 3) (.cells #[.int .i64 Y] 3)).1)) (by intro q hq; rw [List.mem_singleton] at hq; subst hq; rfl) (by decide) C3.out C4.out (by exact Nat.le_trans HVs5.out ((U0.out.alloc (.cells #[.int .i64 X] 3)).alloc (.cells #[.int .i64 Y] 3)).size) _ (by rfl) ?_
              intro g6 c6 w6 hown6 hg6 hat6 hlt6
              have HX := Lib.hid (HMid.out _ w6 g6 c6 ((U0.out.alloc (.cells #[.int .i64 X] 3)).alloc (.cells #[.int .i64 Y] 3)) hg6 hat6)
              have HF := Lib.hid (HFin.out _ w6 g6 c6 ((U0.out.alloc (.cells #[.int .i64 X] 3)).alloc (.cells #[.int .i64 Y] 3)) hown6 hg6 hat6)
              have HNb := Lib.hid (HCa.out _ w6 _ _ ((U0.out.alloc (.cells #[.int .i64 X] 3)).alloc (.cells #[.int .i64 Y] 3)) hg6 ((Nat.le_succ _)) ((boxes2 w5.drew (.cells #[.int .i64 X] 3) (.cells #[.int .i64 Y] 3)).2.1))
              clear hown6 hg6 hat6 hlt6
              refine hK.out _ _ (HX.out.1 _ (Upd.refl NoB w6)) (fun _ => ?_)
              change wpAnyH _ _ _ _ _ 1 #[true, true, true, true, true, true, true, true, true, false] { tmps := #[.agg #[.slice (some ⟨g, 0, none⟩) 128 c, .slice sa sn sc], .func (.func 94) #[] #[.pointer (some ⟨m1, 0, none⟩), .pointer (some ⟨m1 + 1, 0, none⟩)], .pointer (some ⟨g2, 0, none⟩), .pointer (some ⟨g3, 0, none⟩), .pointer (some ⟨g4, 0, none⟩), .pointer (some ⟨g5, 0, none⟩), .int .i64 (k : Nat), .pointer (some ⟨s0, 0, none⟩), undef, .pointer (some ⟨q9, 0, none⟩), .agg #[.slice (some ⟨g, 0, none⟩) 128 c, .slice sa sn sc], .func (.func 110) #[] #[.pointer (some ⟨B, 0, none⟩)], .int .i64 (k : Nat), .agg #[.int .i64 (f : Nat), .int .i64 (t : Nat)], .pointer (some ⟨g2, 0, none⟩), .slice (some ⟨g, 0, none⟩) 128 c, .pointer (some ⟨s0, 0, none⟩), .int .i64 (f : Nat), .pointer (some ⟨s0, 1, none⟩), .int .i64 (t : Nat), .slice (some ⟨g, f * 2, none⟩) x (c - f), .int .i64 (x : Nat), .int .i64 (j : Nat), .bool true, .pointer (some ⟨g, f * 2 + j * 2, none⟩), .agg #[.int .i64 x0, .int .i64 y0], .func (.func 94) #[] #[.pointer (some ⟨m1, 0, none⟩), .pointer (some ⟨m1 + 1, 0, none⟩)], .int .i64 (k : Nat), .agg #[.int .i64 x0, .int .i64 y0], .agg #[.int .i64 X, .int .i64 Y], .slice va0 n vc, .pointer (some ⟨q9, 0, none⟩), .int .i64 X, .slice (some ⟨w5.heap.size, 0, none⟩) 1 1, .slice (some ⟨g6, 0, none⟩) (n + 1) c6, .slice vb0 n vd, .pointer (some ⟨q9, 1, none⟩), .int .i64 Y, .slice (some ⟨w5.heap.size + 1, 0, none⟩) 1 1, u39, u40, undef, undef], defers := [] } w6
              refine wpAnyH_ready (rs := [9]) (by kernel_rfl) (by simp) ?_
              refine AllReadyH.cons rfl (fun K hK => ?_) ?_
              · refine step_append_lies _ (by rfl) _ _ _ (by rfl) (W.heap.size + 2) 3 i0 (.int .i64 0) 1 8 Try.underlying22 hii hz0 hz1 hz2 (by rfl) (by decide) _ n (i64s ys) (by rfl) (by exact (Upd.refl NoB w6).row HX.out.2.1 (fun q _ => noB q)) ⟨w5.heap.size + 1, 0, none⟩ 1 1 [.int .i64 Y] (by rfl) (by rfl) (by exact World.news_of_block HNb.out) (by intro q hq; rw [List.mem_singleton] at hq; subst hq; rfl) (by decide) C3.out C4.out (by exact Nat.le_trans HX.out.2.2 (Upd.refl NoB w6).size) _ (by rfl) ?_
                intro g8 c8 w9 hown9 hg9 hat9 hlt9
                have HE := Lib.hid (HF.out _ w9 g8 c8 (Upd.refl NoB w6) hown9 hg9 hat9)
                clear hown9 hg9 hat9 hlt9
                refine hK.out _ _ HE.out.1 (fun _ => ?_)
                change wpAnyH _ _ _ _ _ 0 #[true, true, true, true, true, true, true, true, true, true] { tmps := #[.agg #[.slice (some ⟨g, 0, none⟩) 128 c, .slice sa sn sc], .func (.func 94) #[] #[.pointer (some ⟨m1, 0, none⟩), .pointer (some ⟨m1 + 1, 0, none⟩)], .pointer (some ⟨g2, 0, none⟩), .pointer (some ⟨g3, 0, none⟩), .pointer (some ⟨g4, 0, none⟩), .pointer (some ⟨g5, 0, none⟩), .int .i64 (k : Nat), .pointer (some ⟨s0, 0, none⟩), undef, .pointer (some ⟨q9, 0, none⟩), .agg #[.slice (some ⟨g, 0, none⟩) 128 c, .slice sa sn sc], .func (.func 110) #[] #[.pointer (some ⟨B, 0, none⟩)], .int .i64 (k : Nat), .agg #[.int .i64 (f : Nat), .int .i64 (t : Nat)], .pointer (some ⟨g2, 0, none⟩), .slice (some ⟨g, 0, none⟩) 128 c, .pointer (some ⟨s0, 0, none⟩), .int .i64 (f : Nat), .pointer (some ⟨s0, 1, none⟩), .int .i64 (t : Nat), .slice (some ⟨g, f * 2, none⟩) x (c - f), .int .i64 (x : Nat), .int .i64 (j : Nat), .bool true, .pointer (some ⟨g, f * 2 + j * 2, none⟩), .agg #[.int .i64 x0, .int .i64 y0], .func (.func 94) #[] #[.pointer (some ⟨m1, 0, none⟩), .pointer (some ⟨m1 + 1, 0, none⟩)], .int .i64 (k : Nat), .agg #[.int .i64 x0, .int .i64 y0], .agg #[.int .i64 X, .int .i64 Y], .slice va0 n vc, .pointer (some ⟨q9, 0, none⟩), .int .i64 X, .slice (some ⟨w5.heap.size, 0, none⟩) 1 1, .slice (some ⟨g6, 0, none⟩) (n + 1) c6, .slice vb0 n vd, .pointer (some ⟨q9, 1, none⟩), .int .i64 Y, .slice (some ⟨w5.heap.size + 1, 0, none⟩) 1 1, .slice (some ⟨g8, 0, none⟩) (n + 1) c8, u40, undef, undef], defers := [] } w9
                refine wpAnyH_done (by kernel_rfl) ?_ _
                change wpList _ _ _ _ _ w9
                obtain ⟨⟨e4, e5⟩, ht11, u11⟩ := HE.out.2
                have m4 := blk_cell e4 0
                have mf4 := blk_free e4 0
                have m5 := blk_cell e5 0
                have mf5 := blk_free e5 0
                have hne : g4 ≠ g5 := HGs2.out.2.2.1
                have HT11 := Lib.hid ht11
                have U11 := Lib.hid (HRel.out _ u11)
                clear e4 e5 ht11 u11
                repeat clear hK K
                go_wp2_with fail
                gi_wp2
                go_roundw
                case rel => exact ⟨j + 1, _, _, by have := HJ.out; omega, by go_num, by rw [← Nat.add_assoc, HNn.out, HSa.out, HSb.out]; exact HT11.out, HKf.out.trans U11.out.1, HKd.out.trans U11.out.2.1, Nat.le_trans HVw.out U11.out.2.2⟩
                case measure => have := HJ.out; simp [intOf]; omega
              exact AllReadyH.nil
            exact AllReadyH.nil
          exact AllReadyH.nil
        refine AllReadyH.cons rfl (fun K hK => ?_) ?_
        · go_simp
          refine hK.out _ _ (HSZ.out _ (U0.out.alloc (.cells #[.int .i64 Y] 3))) (fun _ => ?_)
          change wpAnyH _ _ _ _ _ 3 #[true, true, true, false, false, true, true, true, true, false] { tmps := #[.agg #[.slice (some ⟨g, 0, none⟩) 128 c, .slice sa sn sc], .func (.func 94) #[] #[.pointer (some ⟨m1, 0, none⟩), .pointer (some ⟨m1 + 1, 0, none⟩)], .pointer (some ⟨g2, 0, none⟩), .pointer (some ⟨g3, 0, none⟩), .pointer (some ⟨g4, 0, none⟩), .pointer (some ⟨g5, 0, none⟩), .int .i64 (k : Nat), .pointer (some ⟨s0, 0, none⟩), undef, .pointer (some ⟨q9, 0, none⟩), .agg #[.slice (some ⟨g, 0, none⟩) 128 c, .slice sa sn sc], .func (.func 110) #[] #[.pointer (some ⟨B, 0, none⟩)], .int .i64 (k : Nat), .agg #[.int .i64 (f : Nat), .int .i64 (t : Nat)], .pointer (some ⟨g2, 0, none⟩), .slice (some ⟨g, 0, none⟩) 128 c, .pointer (some ⟨s0, 0, none⟩), .int .i64 (f : Nat), .pointer (some ⟨s0, 1, none⟩), .int .i64 (t : Nat), .slice (some ⟨g, f * 2, none⟩) x (c - f), .int .i64 (x : Nat), .int .i64 (j : Nat), .bool true, .pointer (some ⟨g, f * 2 + j * 2, none⟩), .agg #[.int .i64 x0, .int .i64 y0], .func (.func 94) #[] #[.pointer (some ⟨m1, 0, none⟩), .pointer (some ⟨m1 + 1, 0, none⟩)], .int .i64 (k : Nat), .agg #[.int .i64 x0, .int .i64 y0], .agg #[.int .i64 X, .int .i64 Y], .slice va0 n vc, .pointer (some ⟨q9, 0, none⟩), .int .i64 X, u33, u34, .slice vb0 n vd, .pointer (some ⟨q9, 1, none⟩), .int .i64 Y, .slice (some ⟨w5.heap.size, 0, none⟩) 1 1, u39, u40, undef, undef], defers := [] } (w5.drew.alloc (.cells #[.int .i64 Y] 3))
          refine wpAnyH_ready (rs := [3]) (by kernel_rfl) (by simp) ?_
          refine AllReadyH.cons rfl (fun K hK => ?_) ?_
          · go_simp
            refine hK.out _ _ (HSZ.out _ ((U0.out.alloc (.cells #[.int .i64 Y] 3)).alloc (.cells #[.int .i64 X] 3))) (fun _ => ?_)
            change wpAnyH _ _ _ _ _ 2 #[true, true, true, true, false, true, true, true, true, false] { tmps := #[.agg #[.slice (some ⟨g, 0, none⟩) 128 c, .slice sa sn sc], .func (.func 94) #[] #[.pointer (some ⟨m1, 0, none⟩), .pointer (some ⟨m1 + 1, 0, none⟩)], .pointer (some ⟨g2, 0, none⟩), .pointer (some ⟨g3, 0, none⟩), .pointer (some ⟨g4, 0, none⟩), .pointer (some ⟨g5, 0, none⟩), .int .i64 (k : Nat), .pointer (some ⟨s0, 0, none⟩), undef, .pointer (some ⟨q9, 0, none⟩), .agg #[.slice (some ⟨g, 0, none⟩) 128 c, .slice sa sn sc], .func (.func 110) #[] #[.pointer (some ⟨B, 0, none⟩)], .int .i64 (k : Nat), .agg #[.int .i64 (f : Nat), .int .i64 (t : Nat)], .pointer (some ⟨g2, 0, none⟩), .slice (some ⟨g, 0, none⟩) 128 c, .pointer (some ⟨s0, 0, none⟩), .int .i64 (f : Nat), .pointer (some ⟨s0, 1, none⟩), .int .i64 (t : Nat), .slice (some ⟨g, f * 2, none⟩) x (c - f), .int .i64 (x : Nat), .int .i64 (j : Nat), .bool true, .pointer (some ⟨g, f * 2 + j * 2, none⟩), .agg #[.int .i64 x0, .int .i64 y0], .func (.func 94) #[] #[.pointer (some ⟨m1, 0, none⟩), .pointer (some ⟨m1 + 1, 0, none⟩)], .int .i64 (k : Nat), .agg #[.int .i64 x0, .int .i64 y0], .agg #[.int .i64 X, .int .i64 Y], .slice va0 n vc, .pointer (some ⟨q9, 0, none⟩), .int .i64 X, .slice (some ⟨w5.heap.size + 1, 0, none⟩) 1 1, u34, .slice vb0 n vd, .pointer (some ⟨q9, 1, none⟩), .int .i64 Y, .slice (some ⟨w5.heap.size, 0, none⟩) 1 1, u39, u40, undef, undef], defers := [] } ((w5.drew.alloc (.cells #[.int .i64 Y] 3)).alloc (.cells #[.int .i64 X] 3))
            refine wpAnyH_ready (rs := [4]) (by kernel_rfl) (by simp) ?_
            refine AllReadyH.cons rfl (fun K hK => ?_) ?_
            · refine step_append_lies _ (by rfl) _ _ _ (by rfl) (W.heap.size + 2) 3 i0 (.int .i64 0) 1 8 Try.underlying22 hii hz0 hz1 hz2 (by rfl) (by decide) _ n (i64s xs) (by rfl) (by exact ((U0.out.alloc (.cells #[.int .i64 Y] 3)).alloc (.cells #[.int .i64 X] 3)).row HT5.out.ra (fun q _ => noB q)) ⟨w5.heap.size + 1, 0, none⟩ 1 1 [.int .i64 X] (by rfl) (by rfl) (by exact World.news_of_block ((boxes2 w5.drew (.cells #[.int .i64 Y] 3) (.cells #[.int .i64 X] 3)).2.1)) (by intro q hq; rw [List.mem_singleton] at hq; subst hq; rfl) (by decide) C3.out C4.out (by exact Nat.le_trans HVs5.out ((U0.out.alloc (.cells #[.int .i64 Y] 3)).alloc (.cells #[.int .i64 X] 3)).size) _ (by rfl) ?_
              intro g6 c6 w6 hown6 hg6 hat6 hlt6
              have HX := Lib.hid (HMid.out _ w6 g6 c6 ((U0.out.alloc (.cells #[.int .i64 Y] 3)).alloc (.cells #[.int .i64 X] 3)) hg6 hat6)
              have HF := Lib.hid (HFin.out _ w6 g6 c6 ((U0.out.alloc (.cells #[.int .i64 Y] 3)).alloc (.cells #[.int .i64 X] 3)) hown6 hg6 hat6)
              have HNb := Lib.hid (HCa.out _ w6 _ _ ((U0.out.alloc (.cells #[.int .i64 Y] 3)).alloc (.cells #[.int .i64 X] 3)) hg6 ((Nat.le_refl _)) ((boxes2 w5.drew (.cells #[.int .i64 Y] 3) (.cells #[.int .i64 X] 3)).1))
              clear hown6 hg6 hat6 hlt6
              refine hK.out _ _ (HX.out.1 _ (Upd.refl NoB w6)) (fun _ => ?_)
              change wpAnyH _ _ _ _ _ 1 #[true, true, true, true, true, true, true, true, true, false] { tmps := #[.agg #[.slice (some ⟨g, 0, none⟩) 128 c, .slice sa sn sc], .func (.func 94) #[] #[.pointer (some ⟨m1, 0, none⟩), .pointer (some ⟨m1 + 1, 0, none⟩)], .pointer (some ⟨g2, 0, none⟩), .pointer (some ⟨g3, 0, none⟩), .pointer (some ⟨g4, 0, none⟩), .pointer (some ⟨g5, 0, none⟩), .int .i64 (k : Nat), .pointer (some ⟨s0, 0, none⟩), undef, .pointer (some ⟨q9, 0, none⟩), .agg #[.slice (some ⟨g, 0, none⟩) 128 c, .slice sa sn sc], .func (.func 110) #[] #[.pointer (some ⟨B, 0, none⟩)], .int .i64 (k : Nat), .agg #[.int .i64 (f : Nat), .int .i64 (t : Nat)], .pointer (some ⟨g2, 0, none⟩), .slice (some ⟨g, 0, none⟩) 128 c, .pointer (some ⟨s0, 0, none⟩), .int .i64 (f : Nat), .pointer (some ⟨s0, 1, none⟩), .int .i64 (t : Nat), .slice (some ⟨g, f * 2, none⟩) x (c - f), .int .i64 (x : Nat), .int .i64 (j : Nat), .bool true, .pointer (some ⟨g, f * 2 + j * 2, none⟩), .agg #[.int .i64 x0, .int .i64 y0], .func (.func 94) #[] #[.pointer (some ⟨m1, 0, none⟩), .pointer (some ⟨m1 + 1, 0, none⟩)], .int .i64 (k : Nat), .agg #[.int .i64 x0, .int .i64 y0], .agg #[.int .i64 X, .int .i64 Y], .slice va0 n vc, .pointer (some ⟨q9, 0, none⟩), .int .i64 X, .slice (some ⟨w5.heap.size + 1, 0, none⟩) 1 1, .slice (some ⟨g6, 0, none⟩) (n + 1) c6, .slice vb0 n vd, .pointer (some ⟨q9, 1, none⟩), .int .i64 Y, .slice (some ⟨w5.heap.size, 0, none⟩) 1 1, u39, u40, undef, undef], defers := [] } w6
              refine wpAnyH_ready (rs := [9]) (by kernel_rfl) (by simp) ?_
              refine AllReadyH.cons rfl (fun K hK => ?_) ?_
              · refine step_append_lies _ (by rfl) _ _ _ (by rfl) (W.heap.size + 2) 3 i0 (.int .i64 0) 1 8 Try.underlying22 hii hz0 hz1 hz2 (by rfl) (by decide) _ n (i64s ys) (by rfl) (by exact (Upd.refl NoB w6).row HX.out.2.1 (fun q _ => noB q)) ⟨w5.heap.size, 0, none⟩ 1 1 [.int .i64 Y] (by rfl) (by rfl) (by exact World.news_of_block HNb.out) (by intro q hq; rw [List.mem_singleton] at hq; subst hq; rfl) (by decide) C3.out C4.out (by exact Nat.le_trans HX.out.2.2 (Upd.refl NoB w6).size) _ (by rfl) ?_
                intro g8 c8 w9 hown9 hg9 hat9 hlt9
                have HE := Lib.hid (HF.out _ w9 g8 c8 (Upd.refl NoB w6) hown9 hg9 hat9)
                clear hown9 hg9 hat9 hlt9
                refine hK.out _ _ HE.out.1 (fun _ => ?_)
                change wpAnyH _ _ _ _ _ 0 #[true, true, true, true, true, true, true, true, true, true] { tmps := #[.agg #[.slice (some ⟨g, 0, none⟩) 128 c, .slice sa sn sc], .func (.func 94) #[] #[.pointer (some ⟨m1, 0, none⟩), .pointer (some ⟨m1 + 1, 0, none⟩)], .pointer (some ⟨g2, 0, none⟩), .pointer (some ⟨g3, 0, none⟩), .pointer (some ⟨g4, 0, none⟩), .pointer (some ⟨g5, 0, none⟩), .int .i64 (k : Nat), .pointer (some ⟨s0, 0, none⟩), undef, .pointer (some ⟨q9, 0, none⟩), .agg #[.slice (some ⟨g, 0, none⟩) 128 c, .slice sa sn sc], .func (.func 110) #[] #[.pointer (some ⟨B, 0, none⟩)], .int .i64 (k : Nat), .agg #[.int .i64 (f : Nat), .int .i64 (t : Nat)], .pointer (some ⟨g2, 0, none⟩), .slice (some ⟨g, 0, none⟩) 128 c, .pointer (some ⟨s0, 0, none⟩), .int .i64 (f : Nat), .pointer (some ⟨s0, 1, none⟩), .int .i64 (t : Nat), .slice (some ⟨g, f * 2, none⟩) x (c - f), .int .i64 (x : Nat), .int .i64 (j : Nat), .bool true, .pointer (some ⟨g, f * 2 + j * 2, none⟩), .agg #[.int .i64 x0, .int .i64 y0], .func (.func 94) #[] #[.pointer (some ⟨m1, 0, none⟩), .pointer (some ⟨m1 + 1, 0, none⟩)], .int .i64 (k : Nat), .agg #[.int .i64 x0, .int .i64 y0], .agg #[.int .i64 X, .int .i64 Y], .slice va0 n vc, .pointer (some ⟨q9, 0, none⟩), .int .i64 X, .slice (some ⟨w5.heap.size + 1, 0, none⟩) 1 1, .slice (some ⟨g6, 0, none⟩) (n + 1) c6, .slice vb0 n vd, .pointer (some ⟨q9, 1, none⟩), .int .i64 Y, .slice (some ⟨w5.heap.size, 0, none⟩) 1 1, .slice (some ⟨g8, 0, none⟩) (n + 1) c8, u40, undef, undef], defers := [] } w9
                refine wpAnyH_done (by kernel_rfl) ?_ _
                change wpList _ _ _ _ _ w9
                obtain ⟨⟨e4, e5⟩, ht11, u11⟩ := HE.out.2
                have m4 := blk_cell e4 0
                have mf4 := blk_free e4 0
                have m5 := blk_cell e5 0
                have mf5 := blk_free e5 0
                have hne : g4 ≠ g5 := HGs2.out.2.2.1
                have HT11 := Lib.hid ht11
                have U11 := Lib.hid (HRel.out _ u11)
                clear e4 e5 ht11 u11
                repeat clear hK K
                go_wp2_with fail
                gi_wp2
                go_roundw
                case rel => exact ⟨j + 1, _, _, by have := HJ.out; omega, by go_num, by rw [← Nat.add_assoc, HNn.out, HSa.out, HSb.out]; exact HT11.out, HKf.out.trans U11.out.1, HKd.out.trans U11.out.2.1, Nat.le_trans HVw.out U11.out.2.2⟩
                case measure => have := HJ.out; simp [intOf]; omega
              exact AllReadyH.nil
            exact AllReadyH.nil
          exact AllReadyH.nil
        exact AllReadyH.nil
      · obtain rfl : j = x := by omega
        have HTr := Lib.hid ht; have HKf := Lib.hid hkf; have HKd := Lib.hid hkd; have HVw := Lib.hid hvs
        clear ht hkf hkd hvs hlt
        gi_wp2
        exact ⟨HKf.out, ⟨⟨HKd.out, HVw.out⟩, fun j h1 h2 => by omega⟩, ⟨_, _, by rw [← HTt.out]; exact HTr.out⟩⟩
  case done =>
    rintro D V hD ⟨va, vb, ht⟩ hK
    rw [HEnd.out] at ht
    obtain ⟨va0, vc, rfl⟩ := row_form ht.ra
    obtain ⟨vb0, vd, rfl⟩ := row_form ht.rb
    have d0 := blk_cell ht.ha 0
    have d1 := blk_cell ht.hb 0
    have f0 := blk_free ht.ha 0
    have f1 := blk_free ht.hb 0
    have HTr := Lib.hid ht; have HKd := Lib.hid hK; have HDl := Lib.hid hD
    have hne : g4 ≠ g5 := by have := HG5.out; omega
    clear ht hK
    go_wp2_with fail
    go_region_law (fail)
    all_goals
      go_wp2_with fail
      have ht := HTr.out
      have hWD : W.heap.size ≤ D := HDl.out
      have hg5W : g5 + 1 < W.heap.size := HSz.out
      have hg4W : g4 < g5 := by have := HG5.out; omega
      have us : Upd (fun j => j = g4 ∨ j = g5) V (((V.setCell ⟨g4, 0, none⟩ (.slice va0 128 vc)).setCell ⟨g5, 0, none⟩ (.slice vb0 128 vd)).drew) := (((Upd.refl (fun j => j = g4 ∨ j = g5) V).setCell (p := ⟨g4, 0, none⟩) _ (fun _ => .inl rfl)).setCell (p := ⟨g5, 0, none⟩) _ (fun _ => .inr rfl)).drew
      have hD9 : (((V.setCell ⟨g4, 0, none⟩ (.slice va0 128 vc)).setCell ⟨g5, 0, none⟩ (.slice vb0 128 vd)).drew).heap[D]? = some (.deferred (some [])) := us.heap HKd.out (fun e => by omega)
      have h4 : (((V.setCell ⟨g4, 0, none⟩ (.slice va0 128 vc)).setCell ⟨g5, 0, none⟩ (.slice vb0 128 vd)).drew).heap[g4]? = some (.cells #[.slice va0 128 vc] 22 (0, 0)) := block_keep (block_set ht.ha _) (by simp only; omega) _
      have h5 : (((V.setCell ⟨g4, 0, none⟩ (.slice va0 128 vc)).setCell ⟨g5, 0, none⟩ (.slice vb0 128 vd)).drew).heap[g5]? = some (.cells #[.slice vb0 128 vd] 22 (0, 0)) := block_set (block_keep ht.hb (by simp only; omega) _) _
      have hra := us.row ht.ra (fun j hj e => by have := (ht.ra.lt j hj).1; omega)
      have hrb := us.row ht.rb (fun j hj e => by have := (ht.rb.lt j hj).1; omega)
      have uall : Upd NoB w (((V.setCell ⟨g4, 0, none⟩ (.slice va0 128 vc)).setCell ⟨g5, 0, none⟩ (.slice vb0 128 vd)).drew) := HU.out.trans (ht.u.trans us (fun _ _ h => h)) (fun j hj e => by have := HG2.out; have := HG3.out; have := HG4.out; omega)
      have hws : w.heap.size ≤ W.heap.size + 2 := by have := HU.out.size; omega
      generalize ((V.setCell ⟨g4, 0, none⟩ (.slice va0 128 vc)).setCell ⟨g5, 0, none⟩ (.slice vb0 128 vd)).drew = Vf at *
      refine ⟨by simp, .inl ⟨_, _, rfl, run_takeDeferred hD9, ?_⟩⟩
      refine ⟨_, results_two rfl _ _ g4 g5 _ _ rfl rfl (blk_cell ((World.putObj_heap_other (by omega)).trans h4) 0) (blk_cell ((World.putObj_heap_other (by omega)).trans h5) 0), va0, vc, vb0, vd, rfl, ?_, ?_, ?_⟩
      · exact row_base (srow_grown hra (grownBy_putObj' _ _ _) (fun r e => by cases e; exact .inr ⟨_, hD9, rfl⟩)) hws
      · exact row_base (srow_grown hrb (grownBy_putObj' _ _ _) (fun r e => by cases e; exact .inr ⟨_, hD9, rfl⟩)) hws
      · exact uall.grown (grownBy_putObj' _ _ _) (fun k e hlt => by cases e; have := HU.out.size; omega)
set_option maxRecDepth 100000 in
set_option maxHeartbeats 8000000 in
theorem turnedS_any (g c m1 mc : Nat) (ma : Option Addr) (sw : Value) (l r ws : List Int) (mid : List Bool) (w : World) (hw : isW ws = true) (hi : Ints w sw ws) (hp : PrsA w g 0 (P2 l r) 128) (hc : 128 ≤ c) (hpi : ∀ i, InP 4294967296 (P2 l r i)) (hK : mid.length = ws.length)
    (hm1 : w.cell? ⟨m1, 0, none⟩ = some (.slice ma ws.length mc)) (hm2 : w.cell? ⟨m1 + 1, 0, none⟩ = some (.func (.func 62) #[] #[])) (hbl : Bls w (.slice ma ws.length mc) mid) :
    Calls Try.prog 57 #[.agg #[.slice (some ⟨g, 0, none⟩) 128 c, sw], .func (.func 94) #[] #[.pointer (some ⟨m1, 0, none⟩), .pointer (some ⟨m1 + 1, 0, none⟩)]] w fun e w' => ∃ a ca b cb, e = .returned (.tuple #[.slice a 128 ca, .slice b 128 cb]) ∧ w'.ownsRow w.heap.size 3 1 (.slice a 128 ca) 128 (i64s (cpA sidP l r ws mid 128)) ∧ w'.ownsRow w.heap.size 3 1 (.slice b 128 cb) 128 (i64s (cpB sidP l r ws mid 128)) ∧ Upd NoB w w' := by
  obtain ⟨W0, hW0⟩ : ∃ W, W = (((w.alloc (.cells #[.slice (some ⟨g, 0, none⟩) 128 c, sw] 51)).alloc (.cells #[.func (.func 94) #[] #[.pointer (some ⟨m1, 0, none⟩), .pointer (some ⟨m1 + 1, 0, none⟩)]] 61)).alloc (.cells #[.slice none 0 0] 22)).alloc (.cells #[.slice none 0 0] 22) := ⟨_, rfl⟩
  obtain ⟨b0, b1, b2, b2', hu0, hsz0⟩ := boxes4 w (.cells #[.slice (some ⟨g, 0, none⟩) 128 c, sw] 51) (.cells #[.func (.func 94) #[] #[.pointer (some ⟨m1, 0, none⟩), .pointer (some ⟨m1 + 1, 0, none⟩)]] 61) (.cells #[.slice none 0 0] 22) (.cells #[.slice none 0 0] 22)
  rw [← hW0] at b0 b1 b2 b2' hu0 hsz0
  obtain ⟨W, hW⟩ : ∃ W, W = W0.alloc (.cells #[.slice (some ⟨g, 0, none⟩) 128 c, sw] 51) := ⟨_, rfl⟩
  have b3 : W.heap[W0.heap.size]? = some (.cells #[.slice (some ⟨g, 0, none⟩) 128 c, sw] 51 (0, 0)) := by rw [hW]; exact heap_alloc_new W0 _
  have u3 : Upd NoB W0 W := by rw [hW]; exact (Upd.refl _ _).alloc _
  have hu := hu0.then u3
  have HSq := Lib.hid (bands1_seq W0.heap.size 1 _ sw ws W hw (hi.later hu) b3)
  have hne : ws ≠ [] := by
    rintro rfl
    have := (isW_ok hw).2.1
    simp at this
  have hmne : mid ≠ [] := by
    rintro rfl
    have := (isW_ok hw).2.1
    simp at hK
    omega
  have hD : ∀ j, bandD W0.heap.size sw j → j < W.heap.size ∧ j ≠ w.heap.size + 1 + 1 ∧ j ≠ w.heap.size + 1 + 1 + 1 := fun j hj => by
    rcases hj with rfl | hj
    · exact ⟨lt_of_block b3, by omega, by omega⟩
    · have := hi.lt hne j hj
      have := hu.size
      omega
  have HD := Lib.hid hD
  have HP := Lib.hid (hp.later hu); have HPi := Lib.hid hpi
  have HWg := Lib.hid (fun k hk => isW_get hw (k := k) hk)
  have HM1 := Lib.hid (hu.cell hm1 (noB _)); have HM2 := Lib.hid (hu.cell hm2 (noB _)); have HBl := Lib.hid (hbl.later hu)
  have HMlt := Lib.hid (show m1 + 1 < w.heap.size from (by have := World.block_lt_of_cell? w _ hm2; exact this)); have HBlt := Lib.hid (hbl.lt hmne)
  have HB0 := Lib.hid (u3.heap b0 (noB _)); have HB1 := Lib.hid (u3.heap b1 (noB _)); have HU := Lib.hid hu
  have HT0 := Lib.hid (show TwoB W (W.heap.size + 2) (w.heap.size + 1 + 1) (w.heap.size + 1 + 1 + 1) (psN ws 0) (cpA sidP l r ws mid (psN ws 0)) (cpB sidP l r ws mid (psN ws 0)) (.slice none 0 0) (.slice none 0 0) W from
    ⟨u3.heap b2 (noB _), u3.heap b2' (noB _), World.ownsRow_nil _ _ _ _, World.ownsRow_nil _ _ _ _, fun j hj => by simp [Value.ownBlock] at hj, Upd.refl _ _⟩)
  have HgW := Lib.hid (show g < w.heap.size from (by have := World.block_lt_of_cell? w _ (hp 0 (by decide)).1; exact this))
  have HSz := Lib.hid (show w.heap.size + 1 + 1 + 1 + 1 < W.heap.size from by have := lt_of_block b3; omega)
  have HSA := Lib.hid (fun n => cpA_succ sidP l r ws mid n); have HSB := Lib.hid (fun n => cpB_succ sidP l r ws mid n)
  have HAt := Lib.hid (fun (k x t : Nat) (hx : ws[k]? = some ((x : Nat) : Int)) (ht : t < x) => cpP_at sidP l r mid hx ht)
  have HEnd := Lib.hid (isW_ok hw).2.2.2
  have hN8 := (isW_ok hw).1
  have HKl := Lib.hid hK
  have HW := Lib.hid hW; have HW0 := Lib.hid hW0
  have HB := Lib.hid (show W0.heap.size = w.heap.size + 1 + 1 + 1 + 1 from hsz0)
  obtain ⟨sa, sn, sc, rfl⟩ : ∃ a n c, sw = .slice a n c := by obtain ⟨a, c, e⟩ := hi.form; exact ⟨a, _, c, e⟩
  have c0 := cell_of_block0 b0
  have c1 := cell_of_block1 b0
  obtain ⟨i0, hii, hz0, hz1, hz2⟩ := info_parts Try.infoInt
  clear hp hi hw hW hW0 b0 b1 b2 b2' b3 hu0 u3 hu hD hpi hsz0 hne hmne hm1 hm2 hbl hK
  obtain ⟨N, hN⟩ : ∃ N, ws.length = N := ⟨_, rfl⟩
  rw [hN] at HSq HWg HM1 HBl HKl HEnd hN8 HBlt
  clear hN
  refine (callsIn_wide (n := 2)).1 ?_
  refine callsIn_of_wp_marks Try.func57 rfl trivial (wpIn_wide.2 ?_) rfl
  simp only [Try.ntmps57, List.size_toArray, List.length_cons, List.length_nil, Nat.reduceAdd, Nat.reduceSub, Array.replicate_succ, Array.replicate_zero, List.push_toArray, List.append_toArray, List.nil_append, List.cons_append]
  go_wp2_with fail
  rw [← HW0.out]
  refine (bands_any _ _ W0).mono ?_
  rintro e w2 ⟨rfl, rfl⟩
  rw [← HW.out]
  obtain ⟨B, hB⟩ : ∃ B, W0.heap.size = B := ⟨_, rfl⟩
  rw [hB] at HSq HD HB ⊢
  obtain ⟨g2, hg2⟩ : ∃ B, w.heap.size = B := ⟨_, rfl⟩
  have HG2 := Lib.hid hg2
  rw [hg2] at HD HB0 HB1 HT0 HgW HSz HB HMlt HBlt c0 c1 ⊢
  obtain ⟨g3, hg3⟩ : ∃ B, g2 + 1 = B := ⟨_, rfl⟩
  rw [hg3] at HD HB1 HT0 HSz HB ⊢
  obtain ⟨g4, hg4⟩ : ∃ B, g3 + 1 = B := ⟨_, rfl⟩
  rw [hg4] at HD HT0 HSz HB ⊢
  obtain ⟨g5, hg5⟩ : ∃ B, g4 + 1 = B := ⟨_, rfl⟩
  rw [hg5] at HD HT0 HSz HB ⊢
  have HG3 := Lib.hid hg3; have HG4 := Lib.hid hg4; have HG5 := Lib.hid hg5
  clear hB hg2 hg3 hg4 hg5 c0 c1
  go_wp2_with fail
  refine (wpIn_wide (n := 2)).1 (wpIn_rangeN rfl (by omega) (gf := 110) (lb := #[.pointer (some ⟨B, 0, none⟩)]) rfl trivial (enters_of Try.func110 (by kernel_rfl) rfl) HSq.out (fun h k => ⟨h.1.trans k.1, Nat.le_trans h.2 k.2⟩) (fun W' l o' hl => ⟨keepD_putObj (fun hd => by have := (HD.out _ hd).1; omega), (grownBy_putObj' W' l o').size⟩) (Below.refl _ _) (fun _ => rfl)
    (fun k W' => ∃ va vb, TwoB W (W.heap.size + 2) g4 g5 (psN ws k) (cpA sidP l r ws mid (psN ws k)) (cpB sidP l r ws mid (psN ws k)) va vb W')
    ?hI ⟨_, _, HT0.out⟩
    (fun k a' W' => ∃ s0, W.heap.size ≤ s0 ∧ W'.heap[s0]? = some (.cells #[.int .i64 (psN ws k : Nat), .int .i64 (psN ws (k + 1) : Nat)] 90 (0, 0)) ∧ a' = { tmps := #[.agg #[.slice (some ⟨g, 0, none⟩) 128 c, .slice sa sn sc], .func (.func 94) #[] #[.pointer (some ⟨m1, 0, none⟩), .pointer (some ⟨m1 + 1, 0, none⟩)], .pointer (some ⟨g2, 0, none⟩), .pointer (some ⟨g3, 0, none⟩), .pointer (some ⟨g4, 0, none⟩), .pointer (some ⟨g5, 0, none⟩), .int .i64 (k : Nat), .pointer (some ⟨s0, 0, none⟩), undef, undef, .agg #[.slice (some ⟨g, 0, none⟩) 128 c, .slice sa sn sc], .func (.func 110) #[] #[.pointer (some ⟨B, 0, none⟩)], .int .i64 (k : Nat), .agg #[.int .i64 (psN ws k : Nat), .int .i64 (psN ws (k + 1) : Nat)], undef, undef, undef, undef, undef, undef, undef, undef, undef, undef, undef, undef, undef, undef, undef, undef, undef, undef, undef, undef, undef, undef, undef, undef, undef, undef, undef, undef, undef], defers := [] }) ?hAx ?assign ?body ?done)
  case hI =>
    rintro s A B' row ⟨va, vb, h1⟩ hg hr
    exact ⟨va, vb, h1.own (by have := HSz.out; have := HG5.out; omega) (by have := HSz.out; omega) rfl hg hr⟩
  case hAx =>
    rintro x a' _ A A' row ⟨s0, h0, h1, h2⟩ hg hr
    refine ⟨s0, h0, (hg.block _ (lt_of_block h1) (fun e => ?_)).trans h1, h2⟩
    obtain ⟨_, o, ho, hc⟩ := hr _ e.symm
    rw [h1] at ho; cases ho; cases hc
  case assign =>
    rintro l' k V K ⟨va, vb, ht⟩ hk hK
    obtain ⟨F, hF⟩ : ∃ F, psN ws k = F := ⟨_, rfl⟩
    obtain ⟨T, hT⟩ : ∃ T, psN ws (k + 1) = T := ⟨_, rfl⟩
    simp only [encB, hF, hT] at hK ⊢
    have uA : Upd NoB V (V.alloc (.cells #[.int .i64 F, .int .i64 T] 90)) := (Upd.refl _ _).alloc _
    have HKh := Lib.hid @hK
    have HsV := Lib.hid ht.u.size
    rw [hF] at ht
    clear hK hF hT
    gi_wp2
    exact HKh.out _ _ (keeps_of_upd uA (fun _ _ h => h)) ⟨⟨uA.keepD (fun j hj => ⟨by have := (HD.out j hj).1; have := HsV.out; omega, fun h => h⟩), uA.size⟩, fun j h1 h2 => by omega⟩ ⟨va, vb, ht.later uA⟩ ⟨_, HsV.out, heap_alloc_new V _, rfl⟩
  case body =>
    rintro l' k a' V ⟨va, vb, ht⟩ ⟨s0, hs0, hms, rfl⟩ hVs hk
    obtain ⟨x, hx, x1, x8, hs, hs8⟩ := HWg.out k hk
    have hAtk := fun j (hj : j < x) => HAt.out k x j hx hj
    obtain ⟨f, hf⟩ : ∃ f, psN ws k = f := ⟨_, rfl⟩
    obtain ⟨t, ht'⟩ : ∃ t, f + x = t := ⟨_, rfl⟩
    simp only [hs, hf, ht'] at hms hAtk ht hs8 ⊢
    have hsl := fun Z => run_slice_pr Z g 128 c f t (by omega) (by omega) (by omega)
    rw [show t - f = x by omega] at hsl
    have hg5W : g4 < W.heap.size ∧ g5 < W.heap.size ∧ g4 ≠ g5 ∧ g2 < g4 ∧ g3 < g4 ∧ g4 < g5 ∧ g < g2 ∧ m1 + 1 < g2 := by have := HSz.out; have := HG5.out; have := HG4.out; have := HG3.out; have := HMlt.out; have := HgW.out; omega
    have h2V := ht.u.heap HB0.out (by omega)
    have k1 : V.cell? ⟨g2, 0, none⟩ = some (.slice (some ⟨g, 0, none⟩) 128 c) := blk_cell h2V 0
    have k2 : V.cell? ⟨s0, 0, none⟩ = some (.int .i64 (f : Int)) := blk_cell hms 0
    have k3 : V.cell? ⟨s0, 1, none⟩ = some (.int .i64 (t : Int)) := blk_cell hms 1
    have HAtk := Lib.hid hAtk; have HTt := Lib.hid ht'; have HT := Lib.hid ht; have HVs := Lib.hid hVs; have HK := Lib.hid hk; have HGs := Lib.hid hg5W; have HFx := Lib.hid hs8; have HPs := Lib.hid (show psN ws (k + 1) = t by rw [hs, hf]; exact ht')
    have hx8 : x ≤ 128 := x8
    clear hms ht hVs hx hs hf ht' h2V hAtk hs0 hk hg5W hs8 x8
    gi_wp2
    gi_loopw [9, 22] (fun q9 i wr => ∃ (j : Nat) (va vb : Value), j ≤ x ∧ i = .int .i64 (j : Int) ∧ TwoB W (W.heap.size + 2) g4 g5 (f + j) (cpA sidP l r ws mid (f + j)) (cpB sidP l r ws mid (f + j)) va vb wr ∧ KeepsFrom W.heap.size V wr ∧ KeepD (bandD B (.slice sa sn sc)) V wr ∧ V.heap.size ≤ wr.heap.size) (fun _ i _ => x - (intOf i).toNat)
    case atStart => exact ⟨0, va, vb, Nat.zero_le _, rfl, HT.out, KeepsFrom.refl _ _, KeepD.refl _ _, Nat.le_refl _⟩
    case round =>
      obtain ⟨j, va, vb, hj, rfl, ht, hkf, hkd, hvs⟩ := hrel
      by_cases hlt : j < x
      · obtain ⟨va0, vc, rfl⟩ := row_form ht.ra
        obtain ⟨vb0, vd, rfl⟩ := row_form ht.rb
        have hGs := HGs.out
        have hpV : PrsA wr g 0 (P2 l r) 128 := HP.out.upd ht.u (by omega)
        have hFx := HFx.out
        have hTt := HTt.out
        obtain ⟨c0, c1⟩ := (hpV.sub (f := f) (x := x) (by omega)) j hlt
        have HCh := Lib.hid (fun Z (u : Upd NoB wr Z) => chS_any m1 (m1 + 1) ma N mc k mid (P2 l r (f + j)) Z (HPi.out _) (u.cell (ht.u.cell HM1.out (by show ¬ (m1 = g4 ∨ m1 = g5); omega)) (noB _)) (u.cell (ht.u.cell HM2.out (by show ¬ (m1 + 1 = g4 ∨ m1 + 1 = g5); omega)) (noB _)) ((HBl.out.upd ht.u (fun _ b hb e => by have := HBlt.out b hb; omega)).later u) HK.out HKl.out)
        have hat := HAtk.out j hlt
        rw [← hat] at HCh
        have hsa := HSA.out (f + j); have hsb := HSB.out (f + j)
        have h3V := ht.u.heap HB1.out (by omega)
        have k4 : wr.cell? ⟨g3, 0, none⟩ = some (.func (.func 94) #[] #[.pointer (some ⟨m1, 0, none⟩), .pointer (some ⟨m1 + 1, 0, none⟩)]) := blk_cell h3V 0
        generalize cpP sidP l r ws mid (f + j) = pr at *
        obtain ⟨X, hX⟩ : ∃ X, pr.1 = X := ⟨_, rfl⟩
        obtain ⟨Y, hY⟩ : ∃ Y, pr.2 = Y := ⟨_, rfl⟩
        rw [hX] at HCh hsa
        rw [hY] at HCh hsb
        generalize (P2 l r (f + j)).1 = x0 at *
        generalize (P2 l r (f + j)).2 = y0 at *
        have u7 : Upd NoB wr (wr.alloc (.cells #[.int .i64 x0, .int .i64 y0] 66)) := (Upd.refl _ _).alloc _
        have k5 := u7.cell k4 (noB _)
        have N7 := Lib.hid (heap_alloc_new wr (.cells #[.int .i64 x0, .int .i64 y0] 66))
        have HTr := Lib.hid ht; have HKf := Lib.hid hkf; have HKd := Lib.hid hkd; have HVw := Lib.hid hvs; have HSa := Lib.hid hsa; have HSb := Lib.hid hsb; have U7 := Lib.hid u7; have HPr := Lib.hid hX; have HPr2 := Lib.hid hY; have HGs2 := Lib.hid hGs; have HJ := Lib.hid hlt
        have p1 : (j : Int) < (x : Int) := by omega
        clear ht hkf hkd hvs hGs hpV hat hsa hsb h3V hX hY u7 hFx hTt k1 k2 k3
        gi_wp2
        refine ⟨trivial, rfl, ?_⟩
        (with_reducible refine ((callsIn_wide.2 (HCh.out _ U7.out)).inRound l').mono ?_)
        rintro e w4 ⟨rfl, u4⟩
        obtain ⟨q9, hq9⟩ : ∃ q, wr.heap.size = q := ⟨_, rfl⟩
        rw [hq9] at N7 ⊢
        have hb4 := u4.heap N7.out (noB _)
        have g0 := cell_of_block0 hb4
        have g1 := cell_of_block1 hb4
        have f0 := free_of_block hb4 0
        have f1 := free_of_block hb4 1
        have us : Upd (fun j => j = q9) w4 ((w4.setCell ⟨q9, 0, none⟩ (.int .i64 X)).setCell ⟨q9, 1, none⟩ (.int .i64 Y)) := ((Upd.refl (fun j => j = q9) w4).setCell (p := ⟨q9, 0, none⟩) _ (fun _ => rfl)).setCell (p := ⟨q9, 1, none⟩) _ (fun _ => rfl)
        have uw4 : Upd NoB wr w4 := U7.out.then u4
        have hsW := HTr.out.u.size
        have ht5 := (HTr.out.later uw4).other us (by have := HGs2.out; omega) (by have := HGs2.out; omega) (by omega) (fun i hi => by
          rcases hi with hi | hi
          · have := (HTr.out.ra.lt i hi).2; omega
          · have := (HTr.out.rb.lt i hi).2; omega)
        have u5 : Upd NoB wr ((w4.setCell ⟨q9, 0, none⟩ (.int .i64 X)).setCell ⟨q9, 1, none⟩ (.int .i64 Y)) := uw4.trans us (fun i hi e => absurd hi (by have e : i = q9 := e; omega))
        have hb5 : ((w4.setCell ⟨q9, 0, none⟩ (.int .i64 X)).setCell ⟨q9, 1, none⟩ (.int .i64 Y)).heap[q9]? = some (.cells #[.int .i64 X, .int .i64 Y] 66 (0, 0)) := heap_cell2 hb4
        have HT5 := Lib.hid ht5; have U5 := Lib.hid u5; have HB5 := Lib.hid hb5; have HQ9 := Lib.hid (show W.heap.size ≤ q9 by omega)
        clear us uw4 hsW ht5 u5 hb4 u4 hq9 hb5 c0 c1 k4 k5
        gi_wp2
        generalize (w4.setCell ⟨q9, 0, none⟩ (.int .i64 X)).setCell ⟨q9, 1, none⟩ (.int .i64 Y) = w5 at *
        obtain ⟨n, hn⟩ : ∃ n, f + j = n := ⟨_, rfl⟩
        have HNn := Lib.hid hn
        rw [hn] at HT5 HSa HSb HTr
        generalize cpA sidP l r ws mid n = xs at *
        generalize cpB sidP l r ws mid n = ys at *
        have hS0 := blk_cell HT5.out.ha 0
        have hS1 := blk_cell HT5.out.hb 0
        have hS2 := cell_of_block0 HB5.out
        have hS3 := cell_of_block1 HB5.out
        have HSZ := Lib.hid (show ∀ Z, Upd NoB w5 Z → Z.cell? ⟨g4, 0, none⟩ = some (.slice va0 n vc) ∧ Z.cell? ⟨g5, 0, none⟩ = some (.slice vb0 n vd) ∧ Z.cell? ⟨q9, 0, none⟩ = some (.int .i64 X) ∧ Z.cell? ⟨q9, 1, none⟩ = some (.int .i64 Y) from fun Z u => ⟨u.cell hS0 (noB _), u.cell hS1 (noB _), u.cell hS2 (noB _), u.cell hS3 (noB _)⟩)
        have U0 := Lib.hid (show Upd NoB w5 w5.drew from (Upd.refl NoB w5).drew)
        have C3 := Lib.hid (show n + 1 ≤ maxLen by have := HFx.out; have := HTt.out; have := HJ.out; unfold maxLen; omega)
        have C4 := Lib.hid (show (n + 1) * 8 ≤ 140737488355328 by have := HFx.out; have := HTt.out; have := HJ.out; omega)
        have HVs5 := Lib.hid (show W.heap.size + 2 ≤ w5.heap.size by have := HVs.out; have := HVw.out; have := U5.out.size; omega)
        have hnq : ∀ i, (Value.slice va0 n vc).ownBlock = some i ∨ (Value.slice vb0 n vd).ownBlock = some i → i ≠ q9 := fun i hi e => by
          subst e
          rcases hi with hi | hi
          · exact row_ne HT5.out.ra HB5.out (by decide) hi
          · exact row_ne HT5.out.rb HB5.out (by decide) hi
        have HMid := Lib.hid (show ∀ (Z1 w6 : World) (g6 c6 : Nat), Upd NoB w5 Z1 → Z1.grownBy w6 (Value.slice va0 n vc).ownBlock → ((Value.slice va0 n vc).ownBlock = some g6 ∨ g6 = Z1.heap.size) →
            (∀ Z, Upd NoB w6 Z → Z.cell? ⟨g4, 0, none⟩ = some (.slice va0 n vc) ∧ Z.cell? ⟨g5, 0, none⟩ = some (.slice vb0 n vd) ∧ Z.cell? ⟨q9, 0, none⟩ = some (.int .i64 X) ∧ Z.cell? ⟨q9, 1, none⟩ = some (.int .i64 Y)) ∧ w6.ownsRow (W.heap.size + 2) 3 1 (.slice vb0 n vd) n (i64s ys) ∧ W.heap.size + 2 ≤ w6.heap.size from fun Z1 w6 g6 c6 u1 hg hat => by
          obtain ⟨a1, a2, a3, a4, _⟩ := two_first (c6 := c6) (by omega) HGs2.out.1 HGs2.out.2.1 HT5.out u1 hg hat
          have b2 := a1.cell hS2 (fun e => hnq _ (.inl e) rfl)
          have b3 := a1.cell hS3 (fun e => hnq _ (.inl e) rfl)
          exact ⟨fun Z u => ⟨u.cell (blk_cell a3 0) (noB _), u.cell (blk_cell a4 0) (noB _), u.cell b2 (noB _), u.cell b3 (noB _)⟩, a2, Nat.le_trans HVs5.out a1.size⟩)
        have HCa := Lib.hid (show ∀ (Z1 w6 : World) (b : Nat) (o : Obj), Upd NoB w5 Z1 → Z1.grownBy w6 (Value.slice va0 n vc).ownBlock → w5.heap.size ≤ b → Z1.heap[b]? = some o → w6.heap[b]? = some o from fun Z1 w6 b o u1 hg hb ho =>
          (hg.block b (lt_of_block ho) (fun e => by have := (HT5.out.ra.lt b e.symm).2; omega)).trans ho)
        have HFin := Lib.hid (show ∀ (Z1 w6 : World) (g6 c6 : Nat), Upd NoB w5 Z1 → w6.ownsRow (W.heap.size + 2) 3 1 (.slice (some ⟨g6, 0, none⟩) (n + 1) c6) (n + 1) (i64s xs ++ [.int .i64 X]) → Z1.grownBy w6 (Value.slice va0 n vc).ownBlock → ((Value.slice va0 n vc).ownBlock = some g6 ∨ g6 = Z1.heap.size) →
            ∀ (Z2 w9 : World) (g8 c8 : Nat), Upd NoB w6 Z2 → w9.ownsRow (W.heap.size + 2) 3 1 (.slice (some ⟨g8, 0, none⟩) (n + 1) c8) (n + 1) (i64s ys ++ [.int .i64 Y]) → Z2.grownBy w9 (Value.slice vb0 n vd).ownBlock → ((Value.slice vb0 n vd).ownBlock = some g8 ∨ g8 = Z2.heap.size) →
            (w9.cell? ⟨g4, 0, none⟩ = some (.slice va0 n vc) ∧ w9.cell? ⟨g5, 0, none⟩ = some (.slice vb0 n vd) ∧ w9.cell? ⟨q9, 0, none⟩ = some (.int .i64 X) ∧ w9.cell? ⟨q9, 1, none⟩ = some (.int .i64 Y)) ∧
            (w9.heap[g4]? = some (.cells #[.slice va0 n vc] 22 (0, 0)) ∧ w9.heap[g5]? = some (.cells #[.slice vb0 n vd] 22 (0, 0))) ∧
            TwoB W (W.heap.size + 2) g4 g5 (n + 1) (xs ++ [X]) (ys ++ [Y]) (.slice (some ⟨g6, 0, none⟩) (n + 1) c6) (.slice (some ⟨g8, 0, none⟩) (n + 1) c8) ((w9.setCell ⟨g4, 0, none⟩ (.slice (some ⟨g6, 0, none⟩) (n + 1) c6)).setCell ⟨g5, 0, none⟩ (.slice (some ⟨g8, 0, none⟩) (n + 1) c8)) ∧
            Upd (fun j => ((Value.slice va0 n vc).ownBlock = some j ∨ (Value.slice vb0 n vd).ownBlock = some j) ∨ j = g4 ∨ j = g5) w5 ((w9.setCell ⟨g4, 0, none⟩ (.slice (some ⟨g6, 0, none⟩) (n + 1) c6)).setCell ⟨g5, 0, none⟩ (.slice (some ⟨g8, 0, none⟩) (n + 1) c8)) from fun Z1 w6 g6 c6 u1 hown hg hat Z2 w9 g8 c8 u2 hown2 hg2 hat2 => by
          obtain ⟨⟨e4, e5⟩, e6, e7, e8⟩ := two_end (by omega) HGs2.out.1 HGs2.out.2.1 HGs2.out.2.2.1 HT5.out u1 hown hg hat u2 hown2 hg2 hat2
          exact ⟨⟨blk_cell e4 0, blk_cell e5 0, e7.cell hS2 (fun e => hnq _ e rfl), e7.cell hS3 (fun e => hnq _ e rfl)⟩, ⟨e4, e5⟩, e6, e8⟩)
        have HRel := Lib.hid (show ∀ Z, Upd (fun j => ((Value.slice va0 n vc).ownBlock = some j ∨ (Value.slice vb0 n vd).ownBlock = some j) ∨ j = g4 ∨ j = g5) w5 Z → KeepsFrom W.heap.size wr Z ∧ KeepD (bandD B (.slice sa sn sc)) wr Z ∧ wr.heap.size ≤ Z.heap.size from fun Z uZ => by
          have uall := (U5.out.mono (T := fun j => ((Value.slice va0 n vc).ownBlock = some j ∨ (Value.slice vb0 n vd).ownBlock = some j) ∨ j = g4 ∨ j = g5) (fun _ _ h => h.elim)).trans uZ (fun _ _ h => h)
          have hsW := HTr.out.u.size
          refine ⟨KeepsFrom.of_two uall (fun i hi => ?_), uall.keepD (fun i hi => ?_), uall.size⟩
          · rcases hi with (hi | hi) | hi | hi
            · obtain ⟨c, f, h⟩ := row_notcells HTr.out.ra hi; exact ⟨c, _, f, h⟩
            · obtain ⟨c, f, h⟩ := row_notcells HTr.out.rb hi; exact ⟨c, _, f, h⟩
            · subst hi; exact ⟨_, _, _, HTr.out.ha⟩
            · subst hi; exact ⟨_, _, _, HTr.out.hb⟩
          · have hd := HD.out i hi
            refine ⟨by omega, fun e => ?_⟩
            rcases e with (e | e) | e | e
            · have := (HTr.out.ra.lt i e).1; omega
            · have := (HTr.out.rb.lt i e).1; omega
            · exact hd.2.1 e
            · exact hd.2.2 e)
        rw [← HNn.out] at hS0
        clear hS0 hS1 hS2 hS3 hnq hn
        refine region_split_in 10 (fun Z => Z.cell? ⟨g4, 0, none⟩ = some (.slice va0 n vc) ∧ Z.cell? ⟨g5, 0, none⟩ = some (.slice vb0 n vd) ∧ Z.cell? ⟨q9, 0, none⟩ = some (.int .i64 X) ∧ Z.cell? ⟨q9, 1, none⟩ = some (.int .i64 Y)) (by kernel_rfl) (by kernel_rfl) (fun ⟨_, _, h⟩ => h) (by decide) (by kernel_rfl) (by kernel_rfl) (by kernel_rfl) ?_
        simp only [List.take_succ_cons, List.take_zero, List.drop_succ_cons, List.drop_zero]
        change wpAnyH _ _ _ _ _ 10 #[false, false, false, false, false, false, false, false, false, false] { tmps := #[.agg #[.slice (some ⟨g, 0, none⟩) 128 c, .slice sa sn sc], .func (.func 94) #[] #[.pointer (some ⟨m1, 0, none⟩), .pointer (some ⟨m1 + 1, 0, none⟩)], .pointer (some ⟨g2, 0, none⟩), .pointer (some ⟨g3, 0, none⟩), .pointer (some ⟨g4, 0, none⟩), .pointer (some ⟨g5, 0, none⟩), .int .i64 (k : Nat), .pointer (some ⟨s0, 0, none⟩), undef, .pointer (some ⟨q9, 0, none⟩), .agg #[.slice (some ⟨g, 0, none⟩) 128 c, .slice sa sn sc], .func (.func 110) #[] #[.pointer (some ⟨B, 0, none⟩)], .int .i64 (k : Nat), .agg #[.int .i64 (f : Nat), .int .i64 (t : Nat)], .pointer (some ⟨g2, 0, none⟩), .slice (some ⟨g, 0, none⟩) 128 c, .pointer (some ⟨s0, 0, none⟩), .int .i64 (f : Nat), .pointer (some ⟨s0, 1, none⟩), .int .i64 (t : Nat), .slice (some ⟨g, f * 2, none⟩) x (c - f), .int .i64 (x : Nat), .int .i64 (j : Nat), .bool true, .pointer (some ⟨g, f * 2 + j * 2, none⟩), .agg #[.int .i64 x0, .int .i64 y0], .func (.func 94) #[] #[.pointer (some ⟨m1, 0, none⟩), .pointer (some ⟨m1 + 1, 0, none⟩)], .int .i64 (k : Nat), .agg #[.int .i64 x0, .int .i64 y0], .agg #[.int .i64 X, .int .i64 Y], u30, u31, u32, u33, u34, u35, u36, u37, u38, u39, u40, undef, undef], defers := [] } w5.drew
        refine wpAnyH_take (i := 0) (v := .slice va0 n vc) rfl (by kernel_rfl) (by kernel_rfl) (by kernel_rfl) (fun _ _ _ h => h) (Or.inl ⟨by rfl, fun Z hZ => ?_⟩) (HSZ.out _ U0.out) ?_
        · obtain ⟨k0, k1, k2, k3⟩ := hZ
          go_simp
        change wpAnyH _ _ _ _ _ 9 #[true, false, false, false, false, false, false, false, false, false] { tmps := #[.agg #[.slice (some ⟨g, 0, none⟩) 128 c, .slice sa sn sc], .func (.func 94) #[] #[.pointer (some ⟨m1, 0, none⟩), .pointer (some ⟨m1 + 1, 0, none⟩)], .pointer (some ⟨g2, 0, none⟩), .pointer (some ⟨g3, 0, none⟩), .pointer (some ⟨g4, 0, none⟩), .pointer (some ⟨g5, 0, none⟩), .int .i64 (k : Nat), .pointer (some ⟨s0, 0, none⟩), undef, .pointer (some ⟨q9, 0, none⟩), .agg #[.slice (some ⟨g, 0, none⟩) 128 c, .slice sa sn sc], .func (.func 110) #[] #[.pointer (some ⟨B, 0, none⟩)], .int .i64 (k : Nat), .agg #[.int .i64 (f : Nat), .int .i64 (t : Nat)], .pointer (some ⟨g2, 0, none⟩), .slice (some ⟨g, 0, none⟩) 128 c, .pointer (some ⟨s0, 0, none⟩), .int .i64 (f : Nat), .pointer (some ⟨s0, 1, none⟩), .int .i64 (t : Nat), .slice (some ⟨g, f * 2, none⟩) x (c - f), .int .i64 (x : Nat), .int .i64 (j : Nat), .bool true, .pointer (some ⟨g, f * 2 + j * 2, none⟩), .agg #[.int .i64 x0, .int .i64 y0], .func (.func 94) #[] #[.pointer (some ⟨m1, 0, none⟩), .pointer (some ⟨m1 + 1, 0, none⟩)], .int .i64 (k : Nat), .agg #[.int .i64 x0, .int .i64 y0], .agg #[.int .i64 X, .int .i64 Y], .slice va0 n vc, u31, u32, u33, u34, u35, u36, u37, u38, u39, u40, undef, undef], defers := [] } w5.drew
        refine wpAnyH_take (i := 1) (v := .pointer (some ⟨q9, 0, none⟩)) rfl (by kernel_rfl) (by kernel_rfl) (by kernel_rfl) (fun _ _ _ h => h) (Or.inl ⟨by rfl, fun Z hZ => ?_⟩) (HSZ.out _ U0.out) ?_
        · obtain ⟨k0, k1, k2, k3⟩ := hZ
          go_simp
        change wpAnyH _ _ _ _ _ 8 #[true, true, false, false, false, false, false, false, false, false] { tmps := #[.agg #[.slice (some ⟨g, 0, none⟩) 128 c, .slice sa sn sc], .func (.func 94) #[] #[.pointer (some ⟨m1, 0, none⟩), .pointer (some ⟨m1 + 1, 0, none⟩)], .pointer (some ⟨g2, 0, none⟩), .pointer (some ⟨g3, 0, none⟩), .pointer (some ⟨g4, 0, none⟩), .pointer (some ⟨g5, 0, none⟩), .int .i64 (k : Nat), .pointer (some ⟨s0, 0, none⟩), undef, .pointer (some ⟨q9, 0, none⟩), .agg #[.slice (some ⟨g, 0, none⟩) 128 c, .slice sa sn sc], .func (.func 110) #[] #[.pointer (some ⟨B, 0, none⟩)], .int .i64 (k : Nat), .agg #[.int .i64 (f : Nat), .int .i64 (t : Nat)], .pointer (some ⟨g2, 0, none⟩), .slice (some ⟨g, 0, none⟩) 128 c, .pointer (some ⟨s0, 0, none⟩), .int .i64 (f : Nat), .pointer (some ⟨s0, 1, none⟩), .int .i64 (t : Nat), .slice (some ⟨g, f * 2, none⟩) x (c - f), .int .i64 (x : Nat), .int .i64 (j : Nat), .bool true, .pointer (some ⟨g, f * 2 + j * 2, none⟩), .agg #[.int .i64 x0, .int .i64 y0], .func (.func 94) #[] #[.pointer (some ⟨m1, 0, none⟩), .pointer (some ⟨m1 + 1, 0, none⟩)], .int .i64 (k : Nat), .agg #[.int .i64 x0, .int .i64 y0], .agg #[.int .i64 X, .int .i64 Y], .slice va0 n vc, .pointer (some ⟨q9, 0, none⟩), u32, u33, u34, u35, u36, u37, u38, u39, u40, undef, undef], defers := [] } w5.drew
        refine wpAnyH_take (i := 2) (v := .int .i64 X) rfl (by kernel_rfl) (by kernel_rfl) (by kernel_rfl) (fun _ _ _ h => h) (Or.inl ⟨by rfl, fun Z hZ => ?_⟩) (HSZ.out _ U0.out) ?_
        · obtain ⟨k0, k1, k2, k3⟩ := hZ
          go_simp
        change wpAnyH _ _ _ _ _ 7 #[true, true, true, false, false, false, false, false, false, false] { tmps := #[.agg #[.slice (some ⟨g, 0, none⟩) 128 c, .slice sa sn sc], .func (.func 94) #[] #[.pointer (some ⟨m1, 0, none⟩), .pointer (some ⟨m1 + 1, 0, none⟩)], .pointer (some ⟨g2, 0, none⟩), .pointer (some ⟨g3, 0, none⟩), .pointer (some ⟨g4, 0, none⟩), .pointer (some ⟨g5, 0, none⟩), .int .i64 (k : Nat), .pointer (some ⟨s0, 0, none⟩), undef, .pointer (some ⟨q9, 0, none⟩), .agg #[.slice (some ⟨g, 0, none⟩) 128 c, .slice sa sn sc], .func (.func 110) #[] #[.pointer (some ⟨B, 0, none⟩)], .int .i64 (k : Nat), .agg #[.int .i64 (f : Nat), .int .i64 (t : Nat)], .pointer (some ⟨g2, 0, none⟩), .slice (some ⟨g, 0, none⟩) 128 c, .pointer (some ⟨s0, 0, none⟩), .int .i64 (f : Nat), .pointer (some ⟨s0, 1, none⟩), .int .i64 (t : Nat), .slice (some ⟨g, f * 2, none⟩) x (c - f), .int .i64 (x : Nat), .int .i64 (j : Nat), .bool true, .pointer (some ⟨g, f * 2 + j * 2, none⟩), .agg #[.int .i64 x0, .int .i64 y0], .func (.func 94) #[] #[.pointer (some ⟨m1, 0, none⟩), .pointer (some ⟨m1 + 1, 0, none⟩)], .int .i64 (k : Nat), .agg #[.int .i64 x0, .int .i64 y0], .agg #[.int .i64 X, .int .i64 Y], .slice va0 n vc, .pointer (some ⟨q9, 0, none⟩), .int .i64 X, u33, u34, u35, u36, u37, u38, u39, u40, undef, undef], defers := [] } w5.drew
        refine wpAnyH_take (i := 5) (v := .slice vb0 n vd) rfl (by kernel_rfl) (by kernel_rfl) (by kernel_rfl) (fun _ _ _ h => h) (Or.inl ⟨by rfl, fun Z hZ => ?_⟩) (HSZ.out _ U0.out) ?_
        · obtain ⟨k0, k1, k2, k3⟩ := hZ
          go_simp
        change wpAnyH _ _ _ _ _ 6 #[true, true, true, false, false, true, false, false, false, false] { tmps := #[.agg #[.slice (some ⟨g, 0, none⟩) 128 c, .slice sa sn sc], .func (.func 94) #[] #[.pointer (some ⟨m1, 0, none⟩), .pointer (some ⟨m1 + 1, 0, none⟩)], .pointer (some ⟨g2, 0, none⟩), .pointer (some ⟨g3, 0, none⟩), .pointer (some ⟨g4, 0, none⟩), .pointer (some ⟨g5, 0, none⟩), .int .i64 (k : Nat), .pointer (some ⟨s0, 0, none⟩), undef, .pointer (some ⟨q9, 0, none⟩), .agg #[.slice (some ⟨g, 0, none⟩) 128 c, .slice sa sn sc], .func (.func 110) #[] #[.pointer (some ⟨B, 0, none⟩)], .int .i64 (k : Nat), .agg #[.int .i64 (f : Nat), .int .i64 (t : Nat)], .pointer (some ⟨g2, 0, none⟩), .slice (some ⟨g, 0, none⟩) 128 c, .pointer (some ⟨s0, 0, none⟩), .int .i64 (f : Nat), .pointer (some ⟨s0, 1, none⟩), .int .i64 (t : Nat), .slice (some ⟨g, f * 2, none⟩) x (c - f), .int .i64 (x : Nat), .int .i64 (j : Nat), .bool true, .pointer (some ⟨g, f * 2 + j * 2, none⟩), .agg #[.int .i64 x0, .int .i64 y0], .func (.func 94) #[] #[.pointer (some ⟨m1, 0, none⟩), .pointer (some ⟨m1 + 1, 0, none⟩)], .int .i64 (k : Nat), .agg #[.int .i64 x0, .int .i64 y0], .agg #[.int .i64 X, .int .i64 Y], .slice va0 n vc, .pointer (some ⟨q9, 0, none⟩), .int .i64 X, u33, u34, .slice vb0 n vd, u36, u37, u38, u39, u40, undef, undef], defers := [] } w5.drew
        refine wpAnyH_take (i := 6) (v := .pointer (some ⟨q9, 1, none⟩)) rfl (by kernel_rfl) (by kernel_rfl) (by kernel_rfl) (fun _ _ _ h => h) (Or.inl ⟨by rfl, fun Z hZ => ?_⟩) (HSZ.out _ U0.out) ?_
        · obtain ⟨k0, k1, k2, k3⟩ := hZ
          go_simp
        change wpAnyH _ _ _ _ _ 5 #[true, true, true, false, false, true, true, false, false, false] { tmps := #[.agg #[.slice (some ⟨g, 0, none⟩) 128 c, .slice sa sn sc], .func (.func 94) #[] #[.pointer (some ⟨m1, 0, none⟩), .pointer (some ⟨m1 + 1, 0, none⟩)], .pointer (some ⟨g2, 0, none⟩), .pointer (some ⟨g3, 0, none⟩), .pointer (some ⟨g4, 0, none⟩), .pointer (some ⟨g5, 0, none⟩), .int .i64 (k : Nat), .pointer (some ⟨s0, 0, none⟩), undef, .pointer (some ⟨q9, 0, none⟩), .agg #[.slice (some ⟨g, 0, none⟩) 128 c, .slice sa sn sc], .func (.func 110) #[] #[.pointer (some ⟨B, 0, none⟩)], .int .i64 (k : Nat), .agg #[.int .i64 (f : Nat), .int .i64 (t : Nat)], .pointer (some ⟨g2, 0, none⟩), .slice (some ⟨g, 0, none⟩) 128 c, .pointer (some ⟨s0, 0, none⟩), .int .i64 (f : Nat), .pointer (some ⟨s0, 1, none⟩), .int .i64 (t : Nat), .slice (some ⟨g, f * 2, none⟩) x (c - f), .int .i64 (x : Nat), .int .i64 (j : Nat), .bool true, .pointer (some ⟨g, f * 2 + j * 2, none⟩), .agg #[.int .i64 x0, .int .i64 y0], .func (.func 94) #[] #[.pointer (some ⟨m1, 0, none⟩), .pointer (some ⟨m1 + 1, 0, none⟩)], .int .i64 (k : Nat), .agg #[.int .i64 x0, .int .i64 y0], .agg #[.int .i64 X, .int .i64 Y], .slice va0 n vc, .pointer (some ⟨q9, 0, none⟩), .int .i64 X, u33, u34, .slice vb0 n vd, .pointer (some ⟨q9, 1, none⟩), u37, u38, u39, u40, undef, undef], defers := [] } w5.drew
        refine wpAnyH_take (i := 7) (v := .int .i64 Y) rfl (by kernel_rfl) (by kernel_rfl) (by kernel_rfl) (fun _ _ _ h => h) (Or.inl ⟨by rfl, fun Z hZ => ?_⟩) (HSZ.out _ U0.out) ?_
        · obtain ⟨k0, k1, k2, k3⟩ := hZ
          go_simp
        change wpAnyH _ _ _ _ _ 4 #[true, true, true, false, false, true, true, true, false, false] { tmps := #[.agg #[.slice (some ⟨g, 0, none⟩) 128 c, .slice sa sn sc], .func (.func 94) #[] #[.pointer (some ⟨m1, 0, none⟩), .pointer (some ⟨m1 + 1, 0, none⟩)], .pointer (some ⟨g2, 0, none⟩), .pointer (some ⟨g3, 0, none⟩), .pointer (some ⟨g4, 0, none⟩), .pointer (some ⟨g5, 0, none⟩), .int .i64 (k : Nat), .pointer (some ⟨s0, 0, none⟩), undef, .pointer (some ⟨q9, 0, none⟩), .agg #[.slice (some ⟨g, 0, none⟩) 128 c, .slice sa sn sc], .func (.func 110) #[] #[.pointer (some ⟨B, 0, none⟩)], .int .i64 (k : Nat), .agg #[.int .i64 (f : Nat), .int .i64 (t : Nat)], .pointer (some ⟨g2, 0, none⟩), .slice (some ⟨g, 0, none⟩) 128 c, .pointer (some ⟨s0, 0, none⟩), .int .i64 (f : Nat), .pointer (some ⟨s0, 1, none⟩), .int .i64 (t : Nat), .slice (some ⟨g, f * 2, none⟩) x (c - f), .int .i64 (x : Nat), .int .i64 (j : Nat), .bool true, .pointer (some ⟨g, f * 2 + j * 2, none⟩), .agg #[.int .i64 x0, .int .i64 y0], .func (.func 94) #[] #[.pointer (some ⟨m1, 0, none⟩), .pointer (some ⟨m1 + 1, 0, none⟩)], .int .i64 (k : Nat), .agg #[.int .i64 x0, .int .i64 y0], .agg #[.int .i64 X, .int .i64 Y], .slice va0 n vc, .pointer (some ⟨q9, 0, none⟩), .int .i64 X, u33, u34, .slice vb0 n vd, .pointer (some ⟨q9, 1, none⟩), .int .i64 Y, u38, u39, u40, undef, undef], defers := [] } w5.drew
        refine wpAnyH_ready (rs := [3, 8]) (by kernel_rfl) (by simp) ?_
        refine AllReadyH.cons rfl (fun K hK => ?_) ?_
        · go_simp
          refine hK.out _ _ (HSZ.out _ (U0.out.alloc (.cells #[.int .i64 X] 3))) (fun _ => ?_)
          change wpAnyH _ _ _ _ _ 3 #[true, true, true, true, false, true, true, true, false, false] { tmps := #[.agg #[.slice (some ⟨g, 0, none⟩) 128 c, .slice sa sn sc], .func (.func 94) #[] #[.pointer (some ⟨m1, 0, none⟩), .pointer (some ⟨m1 + 1, 0, none⟩)], .pointer (some ⟨g2, 0, none⟩), .pointer (some ⟨g3, 0, none⟩), .pointer (some ⟨g4, 0, none⟩), .pointer (some ⟨g5, 0, none⟩), .int .i64 (k : Nat), .pointer (some ⟨s0, 0, none⟩), undef, .pointer (some ⟨q9, 0, none⟩), .agg #[.slice (some ⟨g, 0, none⟩) 128 c, .slice sa sn sc], .func (.func 110) #[] #[.pointer (some ⟨B, 0, none⟩)], .int .i64 (k : Nat), .agg #[.int .i64 (f : Nat), .int .i64 (t : Nat)], .pointer (some ⟨g2, 0, none⟩), .slice (some ⟨g, 0, none⟩) 128 c, .pointer (some ⟨s0, 0, none⟩), .int .i64 (f : Nat), .pointer (some ⟨s0, 1, none⟩), .int .i64 (t : Nat), .slice (some ⟨g, f * 2, none⟩) x (c - f), .int .i64 (x : Nat), .int .i64 (j : Nat), .bool true, .pointer (some ⟨g, f * 2 + j * 2, none⟩), .agg #[.int .i64 x0, .int .i64 y0], .func (.func 94) #[] #[.pointer (some ⟨m1, 0, none⟩), .pointer (some ⟨m1 + 1, 0, none⟩)], .int .i64 (k : Nat), .agg #[.int .i64 x0, .int .i64 y0], .agg #[.int .i64 X, .int .i64 Y], .slice va0 n vc, .pointer (some ⟨q9, 0, none⟩), .int .i64 X, .slice (some ⟨w5.heap.size, 0, none⟩) 1 1, u34, .slice vb0 n vd, .pointer (some ⟨q9, 1, none⟩), .int .i64 Y, u38, u39, u40, undef, undef], defers := [] } (w5.drew.alloc (.cells #[.int .i64 X] 3))
          refine wpAnyH_ready (rs := [4, 8]) (by kernel_rfl) (by simp) ?_
          refine AllReadyH.cons rfl (fun K hK => ?_) ?_
          · refine step_append_lies _ (by rfl) _ _ _ (by rfl) (W.heap.size + 2) 3 i0 (.int .i64 0) 1 8 Try.underlying22 hii hz0 hz1 hz2 (by rfl) (by decide) _ n (i64s xs) (by rfl) (by exact (U0.out.alloc (.cells #[.int .i64 X] 3)).row HT5.out.ra (fun q _ => noB q)) ⟨w5.heap.size, 0, none⟩ 1 1 [.int .i64 X] (by rfl) (by rfl) (by exact World.news_of_block (heap_alloc_new w5.drew (.cells #[.int .i64 X] 3))) (by intro q hq; rw [List.mem_singleton] at hq; subst hq; rfl) (by decide) C3.out C4.out (by exact Nat.le_trans HVs5.out (U0.out.alloc (.cells #[.int .i64 X] 3)).size) _ (by rfl) ?_
            intro g6 c6 w6 hown6 hg6 hat6 hlt6
            have HX := Lib.hid (HMid.out _ w6 g6 c6 (U0.out.alloc (.cells #[.int .i64 X] 3)) hg6 hat6)
            have HF := Lib.hid (HFin.out _ w6 g6 c6 (U0.out.alloc (.cells #[.int .i64 X] 3)) hown6 hg6 hat6)
            clear hown6 hg6 hat6 hlt6
            refine hK.out _ _ (HX.out.1 _ (Upd.refl NoB w6)) (fun _ => ?_)
            change wpAnyH _ _ _ _ _ 2 #[true, true, true, true, true, true, true, true, false, false] { tmps := #[.agg #[.slice (some ⟨g, 0, none⟩) 128 c, .slice sa sn sc], .func (.func 94) #[] #[.pointer (some ⟨m1, 0, none⟩), .pointer (some ⟨m1 + 1, 0, none⟩)], .pointer (some ⟨g2, 0, none⟩), .pointer (some ⟨g3, 0, none⟩), .pointer (some ⟨g4, 0, none⟩), .pointer (some ⟨g5, 0, none⟩), .int .i64 (k : Nat), .pointer (some ⟨s0, 0, none⟩), undef, .pointer (some ⟨q9, 0, none⟩), .agg #[.slice (some ⟨g, 0, none⟩) 128 c, .slice sa sn sc], .func (.func 110) #[] #[.pointer (some ⟨B, 0, none⟩)], .int .i64 (k : Nat), .agg #[.int .i64 (f : Nat), .int .i64 (t : Nat)], .pointer (some ⟨g2, 0, none⟩), .slice (some ⟨g, 0, none⟩) 128 c, .pointer (some ⟨s0, 0, none⟩), .int .i64 (f : Nat), .pointer (some ⟨s0, 1, none⟩), .int .i64 (t : Nat), .slice (some ⟨g, f * 2, none⟩) x (c - f), .int .i64 (x : Nat), .int .i64 (j : Nat), .bool true, .pointer (some ⟨g, f * 2 + j * 2, none⟩), .agg #[.int .i64 x0, .int .i64 y0], .func (.func 94) #[] #[.pointer (some ⟨m1, 0, none⟩), .pointer (some ⟨m1 + 1, 0, none⟩)], .int .i64 (k : Nat), .agg #[.int .i64 x0, .int .i64 y0], .agg #[.int .i64 X, .int .i64 Y], .slice va0 n vc, .pointer (some ⟨q9, 0, none⟩), .int .i64 X, .slice (some ⟨w5.heap.size, 0, none⟩) 1 1, .slice (some ⟨g6, 0, none⟩) (n + 1) c6, .slice vb0 n vd, .pointer (some ⟨q9, 1, none⟩), .int .i64 Y, u38, u39, u40, undef, undef], defers := [] } w6
            refine wpAnyH_ready (rs := [8]) (by kernel_rfl) (by simp) ?_
            refine AllReadyH.cons rfl (fun K hK => ?_) ?_
            · go_simp
              refine hK.out _ _ (HX.out.1 _ ((Upd.refl NoB w6).alloc (.cells #[.int .i64 Y] 3))) (fun _ => ?_)
              change wpAnyH _ _ _ _ _ 1 #[true, true, true, true, true, true, true, true, true, false] { tmps := #[.agg #[.slice (some ⟨g, 0, none⟩) 128 c, .slice sa sn sc], .func (.func 94) #[] #[.pointer (some ⟨m1, 0, none⟩), .pointer (some ⟨m1 + 1, 0, none⟩)], .pointer (some ⟨g2, 0, none⟩), .pointer (some ⟨g3, 0, none⟩), .pointer (some ⟨g4, 0, none⟩), .pointer (some ⟨g5, 0, none⟩), .int .i64 (k : Nat), .pointer (some ⟨s0, 0, none⟩), undef, .pointer (some ⟨q9, 0, none⟩), .agg #[.slice (some ⟨g, 0, none⟩) 128 c, .slice sa sn sc], .func (.func 110) #[] #[.pointer (some ⟨B, 0, none⟩)], .int .i64 (k : Nat), .agg #[.int .i64 (f : Nat), .int .i64 (t : Nat)], .pointer (some ⟨g2, 0, none⟩), .slice (some ⟨g, 0, none⟩) 128 c, .pointer (some ⟨s0, 0, none⟩), .int .i64 (f : Nat), .pointer (some ⟨s0, 1, none⟩), .int .i64 (t : Nat), .slice (some ⟨g, f * 2, none⟩) x (c - f), .int .i64 (x : Nat), .int .i64 (j : Nat), .bool true, .pointer (some ⟨g, f * 2 + j * 2, none⟩), .agg #[.int .i64 x0, .int .i64 y0], .func (.func 94) #[] #[.pointer (some ⟨m1, 0, none⟩), .pointer (some ⟨m1 + 1, 0, none⟩)], .int .i64 (k : Nat), .agg #[.int .i64 x0, .int .i64 y0], .agg #[.int .i64 X, .int .i64 Y], .slice va0 n vc, .pointer (some ⟨q9, 0, none⟩), .int .i64 X, .slice (some ⟨w5.heap.size, 0, none⟩) 1 1, .slice (some ⟨g6, 0, none⟩) (n + 1) c6, .slice vb0 n vd, .pointer (some ⟨q9, 1, none⟩), .int .i64 Y, .slice (some ⟨w6.heap.size, 0, none⟩) 1 1, u39, u40, undef, undef], defers := [] } (w6.alloc (.cells #[.int .i64 Y] 3))
              refine wpAnyH_ready (rs := [9]) (by kernel_rfl) (by simp) ?_
              refine AllReadyH.cons rfl (fun K hK => ?_) ?_
              · refine step_append_lies _ (by rfl) _ _ _ (by rfl) (W.heap.size + 2) 3 i0 (.int .i64 0) 1 8 Try.underlying22 hii hz0 hz1 hz2 (by rfl) (by decide) _ n (i64s ys) (by rfl) (by exact ((Upd.refl NoB w6).alloc (.cells #[.int .i64 Y] 3)).row HX.out.2.1 (fun q _ => noB q)) ⟨w6.heap.size, 0, none⟩ 1 1 [.int .i64 Y] (by rfl) (by rfl) (by exact World.news_of_block (heap_alloc_new w6 (.cells #[.int .i64 Y] 3))) (by intro q hq; rw [List.mem_singleton] at hq; subst hq; rfl) (by decide) C3.out C4.out (by exact Nat.le_trans HX.out.2.2 ((Upd.refl NoB w6).alloc (.cells #[.int .i64 Y] 3)).size) _ (by rfl) ?_
                intro g8 c8 w9 hown9 hg9 hat9 hlt9
                have HE := Lib.hid (HF.out _ w9 g8 c8 ((Upd.refl NoB w6).alloc (.cells #[.int .i64 Y] 3)) hown9 hg9 hat9)
                clear hown9 hg9 hat9 hlt9
                refine hK.out _ _ HE.out.1 (fun _ => ?_)
                change wpAnyH _ _ _ _ _ 0 #[true, true, true, true, true, true, true, true, true, true] { tmps := #[.agg #[.slice (some ⟨g, 0, none⟩) 128 c, .slice sa sn sc], .func (.func 94) #[] #[.pointer (some ⟨m1, 0, none⟩), .pointer (some ⟨m1 + 1, 0, none⟩)], .pointer (some ⟨g2, 0, none⟩), .pointer (some ⟨g3, 0, none⟩), .pointer (some ⟨g4, 0, none⟩), .pointer (some ⟨g5, 0, none⟩), .int .i64 (k : Nat), .pointer (some ⟨s0, 0, none⟩), undef, .pointer (some ⟨q9, 0, none⟩), .agg #[.slice (some ⟨g, 0, none⟩) 128 c, .slice sa sn sc], .func (.func 110) #[] #[.pointer (some ⟨B, 0, none⟩)], .int .i64 (k : Nat), .agg #[.int .i64 (f : Nat), .int .i64 (t : Nat)], .pointer (some ⟨g2, 0, none⟩), .slice (some ⟨g, 0, none⟩) 128 c, .pointer (some ⟨s0, 0, none⟩), .int .i64 (f : Nat), .pointer (some ⟨s0, 1, none⟩), .int .i64 (t : Nat), .slice (some ⟨g, f * 2, none⟩) x (c - f), .int .i64 (x : Nat), .int .i64 (j : Nat), .bool true, .pointer (some ⟨g, f * 2 + j * 2, none⟩), .agg #[.int .i64 x0, .int .i64 y0], .func (.func 94) #[] #[.pointer (some ⟨m1, 0, none⟩), .pointer (some ⟨m1 + 1, 0, none⟩)], .int .i64 (k : Nat), .agg #[.int .i64 x0, .int .i64 y0], .agg #[.int .i64 X, .int .i64 Y], .slice va0 n vc, .pointer (some ⟨q9, 0, none⟩), .int .i64 X, .slice (some ⟨w5.heap.size, 0, none⟩) 1 1, .slice (some ⟨g6, 0, none⟩) (n + 1) c6, .slice vb0 n vd, .pointer (some ⟨q9, 1, none⟩), .int .i64 Y, .slice (some ⟨w6.heap.size, 0, none⟩) 1 1, .slice (some ⟨g8, 0, none⟩) (n + 1) c8, u40, undef, undef], defers := [] } w9
                refine wpAnyH_done (by kernel_rfl) ?_ _
                change wpList _ _ _ _ _ w9
                obtain ⟨⟨e4, e5⟩, ht11, u11⟩ := HE.out.2
                have m4 := blk_cell e4 0
                have mf4 := blk_free e4 0
                have m5 := blk_cell e5 0
                have mf5 := blk_free e5 0
                have hne : g4 ≠ g5 := HGs2.out.2.2.1
                have HT11 := Lib.hid ht11
                have U11 := Lib.hid (HRel.out _ u11)
                clear e4 e5 ht11 u11
                repeat clear hK K
                go_wp2_with fail
                gi_wp2
                go_roundw
                case rel => exact ⟨j + 1, _, _, by have := HJ.out; omega, by go_num, by rw [← Nat.add_assoc, HNn.out, HSa.out, HSb.out]; exact HT11.out, HKf.out.trans U11.out.1, HKd.out.trans U11.out.2.1, Nat.le_trans HVw.out U11.out.2.2⟩
                case measure => have := HJ.out; simp [intOf]; omega
              exact AllReadyH.nil
            exact AllReadyH.nil
          refine AllReadyH.cons rfl (fun K hK => ?_) ?_
          · go_simp
            refine hK.out _ _ (HSZ.out _ ((U0.out.alloc (.cells #[.int .i64 X] 3)).alloc (.cells #[.int .i64 Y] 3))) (fun _ => ?_)
            change wpAnyH _ _ _ _ _ 2 #[true, true, true, true, false, true, true, true, true, false] { tmps := #[.agg #[.slice (some ⟨g, 0, none⟩) 128 c, .slice sa sn sc], .func (.func 94) #[] #[.pointer (some ⟨m1, 0, none⟩), .pointer (some ⟨m1 + 1, 0, none⟩)], .pointer (some ⟨g2, 0, none⟩), .pointer (some ⟨g3, 0, none⟩), .pointer (some ⟨g4, 0, none⟩), .pointer (some ⟨g5, 0, none⟩), .int .i64 (k : Nat), .pointer (some ⟨s0, 0, none⟩), undef, .pointer (some ⟨q9, 0, none⟩), .agg #[.slice (some ⟨g, 0, none⟩) 128 c, .slice sa sn sc], .func (.func 110) #[] #[.pointer (some ⟨B, 0, none⟩)], .int .i64 (k : Nat), .agg #[.int .i64 (f : Nat), .int .i64 (t : Nat)], .pointer (some ⟨g2, 0, none⟩), .slice (some ⟨g, 0, none⟩) 128 c, .pointer (some ⟨s0, 0, none⟩), .int .i64 (f : Nat), .pointer (some ⟨s0, 1, none⟩), .int .i64 (t : Nat), .slice (some ⟨g, f * 2, none⟩) x (c - f), .int .i64 (x : Nat), .int .i64 (j : Nat), .bool true, .pointer (some ⟨g, f * 2 + j * 2, none⟩), .agg #[.int .i64 x0, .int .i64 y0], .func (.func 94) #[] #[.pointer (some ⟨m1, 0, none⟩), .pointer (some ⟨m1 + 1, 0, none⟩)], .int .i64 (k : Nat), .agg #[.int .i64 x0, .int .i64 y0], .agg #[.int .i64 X, .int .i64 Y], .slice va0 n vc, .pointer (some ⟨q9, 0, none⟩), .int .i64 X, .slice (some ⟨w5.heap.size, 0, none⟩) 1 1, u34, .slice vb0 n vd, .pointer (some ⟨q9, 1, none⟩), .int .i64 Y, .slice (some ⟨w5.heap.size + 1, 0, none⟩) 1 1, u39, u40, undef, undef], defers := [] } ((w5.drew.alloc (.cells #[.int .i64 X] 3)).alloc (.cells #[.int .i64 Y] 3))
            refine wpAnyH_ready (rs := [4]) (by kernel_rfl) (by simp) ?_
            refine AllReadyH.cons rfl (fun K hK => ?_) ?_
            · refine step_append_lies _ (by rfl) _ _ _ (by rfl) (W.heap.size + 2) 3 i0 (.int .i64 0) 1 8 Try.underlying22 hii hz0 hz1 hz2 (by rfl) (by decide) _ n (i64s xs) (by rfl) (by exact ((U0.out.alloc (.cells #[.int .i64 X] 3)).alloc (.cells #[.int .i64 Y] 3)).row HT5.out.ra (fun q _ => noB q)) ⟨w5.heap.size, 0, none⟩ 1 1 [.int .i64 X] (by rfl) (by rfl) (by exact World.news_of_block ((boxes2 w5.drew (.cells #[.int .i64 X] 3) (.cells #[.int .i64 Y] 3)).1)) (by intro q hq; rw [List.mem_singleton] at hq; subst hq; rfl) (by decide) C3.out C4.out (by exact Nat.le_trans HVs5.out ((U0.out.alloc (.cells #[.int .i64 X] 3)).alloc (.cells #[.int .i64 Y] 3)).size) _ (by rfl) ?_
              intro g6 c6 w6 hown6 hg6 hat6 hlt6
              have HX := Lib.hid (HMid.out _ w6 g6 c6 ((U0.out.alloc (.cells #[.int .i64 X] 3)).alloc (.cells #[.int .i64 Y] 3)) hg6 hat6)
              have HF := Lib.hid (HFin.out _ w6 g6 c6 ((U0.out.alloc (.cells #[.int .i64 X] 3)).alloc (.cells #[.int .i64 Y] 3)) hown6 hg6 hat6)
              have HNb := Lib.hid (HCa.out _ w6 _ _ ((U0.out.alloc (.cells #[.int .i64 X] 3)).alloc (.cells #[.int .i64 Y] 3)) hg6 ((Nat.le_succ _)) ((boxes2 w5.drew (.cells #[.int .i64 X] 3) (.cells #[.int .i64 Y] 3)).2.1))
              clear hown6 hg6 hat6 hlt6
              refine hK.out _ _ (HX.out.1 _ (Upd.refl NoB w6)) (fun _ => ?_)
              change wpAnyH _ _ _ _ _ 1 #[true, true, true, true, true, true, true, true, true, false] { tmps := #[.agg #[.slice (some ⟨g, 0, none⟩) 128 c, .slice sa sn sc], .func (.func 94) #[] #[.pointer (some ⟨m1, 0, none⟩), .pointer (some ⟨m1 + 1, 0, none⟩)], .pointer (some ⟨g2, 0, none⟩), .pointer (some ⟨g3, 0, none⟩), .pointer (some ⟨g4, 0, none⟩), .pointer (some ⟨g5, 0, none⟩), .int .i64 (k : Nat), .pointer (some ⟨s0, 0, none⟩), undef, .pointer (some ⟨q9, 0, none⟩), .agg #[.slice (some ⟨g, 0, none⟩) 128 c, .slice sa sn sc], .func (.func 110) #[] #[.pointer (some ⟨B, 0, none⟩)], .int .i64 (k : Nat), .agg #[.int .i64 (f : Nat), .int .i64 (t : Nat)], .pointer (some ⟨g2, 0, none⟩), .slice (some ⟨g, 0, none⟩) 128 c, .pointer (some ⟨s0, 0, none⟩), .int .i64 (f : Nat), .pointer (some ⟨s0, 1, none⟩), .int .i64 (t : Nat), .slice (some ⟨g, f * 2, none⟩) x (c - f), .int .i64 (x : Nat), .int .i64 (j : Nat), .bool true, .pointer (some ⟨g, f * 2 + j * 2, none⟩), .agg #[.int .i64 x0, .int .i64 y0], .func (.func 94) #[] #[.pointer (some ⟨m1, 0, none⟩), .pointer (some ⟨m1 + 1, 0, none⟩)], .int .i64 (k : Nat), .agg #[.int .i64 x0, .int .i64 y0], .agg #[.int .i64 X, .int .i64 Y], .slice va0 n vc, .pointer (some ⟨q9, 0, none⟩), .int .i64 X, .slice (some ⟨w5.heap.size, 0, none⟩) 1 1, .slice (some ⟨g6, 0, none⟩) (n + 1) c6, .slice vb0 n vd, .pointer (some ⟨q9, 1, none⟩), .int .i64 Y, .slice (some ⟨w5.heap.size + 1, 0, none⟩) 1 1, u39, u40, undef, undef], defers := [] } w6
              refine wpAnyH_ready (rs := [9]) (by kernel_rfl) (by simp) ?_
              refine AllReadyH.cons rfl (fun K hK => ?_) ?_
              · refine step_append_lies _ (by rfl) _ _ _ (by rfl) (W.heap.size + 2) 3 i0 (.int .i64 0) 1 8 Try.underlying22 hii hz0 hz1 hz2 (by rfl) (by decide) _ n (i64s ys) (by rfl) (by exact (Upd.refl NoB w6).row HX.out.2.1 (fun q _ => noB q)) ⟨w5.heap.size + 1, 0, none⟩ 1 1 [.int .i64 Y] (by rfl) (by rfl) (by exact World.news_of_block HNb.out) (by intro q hq; rw [List.mem_singleton] at hq; subst hq; rfl) (by decide) C3.out C4.out (by exact Nat.le_trans HX.out.2.2 (Upd.refl NoB w6).size) _ (by rfl) ?_
                intro g8 c8 w9 hown9 hg9 hat9 hlt9
                have HE := Lib.hid (HF.out _ w9 g8 c8 (Upd.refl NoB w6) hown9 hg9 hat9)
                clear hown9 hg9 hat9 hlt9
                refine hK.out _ _ HE.out.1 (fun _ => ?_)
                change wpAnyH _ _ _ _ _ 0 #[true, true, true, true, true, true, true, true, true, true] { tmps := #[.agg #[.slice (some ⟨g, 0, none⟩) 128 c, .slice sa sn sc], .func (.func 94) #[] #[.pointer (some ⟨m1, 0, none⟩), .pointer (some ⟨m1 + 1, 0, none⟩)], .pointer (some ⟨g2, 0, none⟩), .pointer (some ⟨g3, 0, none⟩), .pointer (some ⟨g4, 0, none⟩), .pointer (some ⟨g5, 0, none⟩), .int .i64 (k : Nat), .pointer (some ⟨s0, 0, none⟩), undef, .pointer (some ⟨q9, 0, none⟩), .agg #[.slice (some ⟨g, 0, none⟩) 128 c, .slice sa sn sc], .func (.func 110) #[] #[.pointer (some ⟨B, 0, none⟩)], .int .i64 (k : Nat), .agg #[.int .i64 (f : Nat), .int .i64 (t : Nat)], .pointer (some ⟨g2, 0, none⟩), .slice (some ⟨g, 0, none⟩) 128 c, .pointer (some ⟨s0, 0, none⟩), .int .i64 (f : Nat), .pointer (some ⟨s0, 1, none⟩), .int .i64 (t : Nat), .slice (some ⟨g, f * 2, none⟩) x (c - f), .int .i64 (x : Nat), .int .i64 (j : Nat), .bool true, .pointer (some ⟨g, f * 2 + j * 2, none⟩), .agg #[.int .i64 x0, .int .i64 y0], .func (.func 94) #[] #[.pointer (some ⟨m1, 0, none⟩), .pointer (some ⟨m1 + 1, 0, none⟩)], .int .i64 (k : Nat), .agg #[.int .i64 x0, .int .i64 y0], .agg #[.int .i64 X, .int .i64 Y], .slice va0 n vc, .pointer (some ⟨q9, 0, none⟩), .int .i64 X, .slice (some ⟨w5.heap.size, 0, none⟩) 1 1, .slice (some ⟨g6, 0, none⟩) (n + 1) c6, .slice vb0 n vd, .pointer (some ⟨q9, 1, none⟩), .int .i64 Y, .slice (some ⟨w5.heap.size + 1, 0, none⟩) 1 1, .slice (some ⟨g8, 0, none⟩) (n + 1) c8, u40, undef, undef], defers := [] } w9
                refine wpAnyH_done (by kernel_rfl) ?_ _
                change wpList _ _ _ _ _ w9
                obtain ⟨⟨e4, e5⟩, ht11, u11⟩ := HE.out.2
                have m4 := blk_cell e4 0
                have mf4 := blk_free e4 0
                have m5 := blk_cell e5 0
                have mf5 := blk_free e5 0
                have hne : g4 ≠ g5 := HGs2.out.2.2.1
                have HT11 := Lib.hid ht11
                have U11 := Lib.hid (HRel.out _ u11)
                clear e4 e5 ht11 u11
                repeat clear hK K
                go_wp2_with fail
                gi_wp2
                go_roundw
                case rel => exact ⟨j + 1, _, _, by have := HJ.out; omega, by go_num, by rw [← Nat.add_assoc, HNn.out, HSa.out, HSb.out]; exact HT11.out, HKf.out.trans U11.out.1, HKd.out.trans U11.out.2.1, Nat.le_trans HVw.out U11.out.2.2⟩
                case measure => have := HJ.out; simp [intOf]; omega
              exact AllReadyH.nil
            exact AllReadyH.nil
          exact AllReadyH.nil
        refine AllReadyH.cons rfl (fun K hK => ?_) ?_
        · go_simp
          refine hK.out _ _ (HSZ.out _ (U0.out.alloc (.cells #[.int .i64 Y] 3))) (fun _ => ?_)
          change wpAnyH _ _ _ _ _ 3 #[true, true, true, false, false, true, true, true, true, false] { tmps := #[.agg #[.slice (some ⟨g, 0, none⟩) 128 c, .slice sa sn sc], .func (.func 94) #[] #[.pointer (some ⟨m1, 0, none⟩), .pointer (some ⟨m1 + 1, 0, none⟩)], .pointer (some ⟨g2, 0, none⟩), .pointer (some ⟨g3, 0, none⟩), .pointer (some ⟨g4, 0, none⟩), .pointer (some ⟨g5, 0, none⟩), .int .i64 (k : Nat), .pointer (some ⟨s0, 0, none⟩), undef, .pointer (some ⟨q9, 0, none⟩), .agg #[.slice (some ⟨g, 0, none⟩) 128 c, .slice sa sn sc], .func (.func 110) #[] #[.pointer (some ⟨B, 0, none⟩)], .int .i64 (k : Nat), .agg #[.int .i64 (f : Nat), .int .i64 (t : Nat)], .pointer (some ⟨g2, 0, none⟩), .slice (some ⟨g, 0, none⟩) 128 c, .pointer (some ⟨s0, 0, none⟩), .int .i64 (f : Nat), .pointer (some ⟨s0, 1, none⟩), .int .i64 (t : Nat), .slice (some ⟨g, f * 2, none⟩) x (c - f), .int .i64 (x : Nat), .int .i64 (j : Nat), .bool true, .pointer (some ⟨g, f * 2 + j * 2, none⟩), .agg #[.int .i64 x0, .int .i64 y0], .func (.func 94) #[] #[.pointer (some ⟨m1, 0, none⟩), .pointer (some ⟨m1 + 1, 0, none⟩)], .int .i64 (k : Nat), .agg #[.int .i64 x0, .int .i64 y0], .agg #[.int .i64 X, .int .i64 Y], .slice va0 n vc, .pointer (some ⟨q9, 0, none⟩), .int .i64 X, u33, u34, .slice vb0 n vd, .pointer (some ⟨q9, 1, none⟩), .int .i64 Y, .slice (some ⟨w5.heap.size, 0, none⟩) 1 1, u39, u40, undef, undef], defers := [] } (w5.drew.alloc (.cells #[.int .i64 Y] 3))
          refine wpAnyH_ready (rs := [3]) (by kernel_rfl) (by simp) ?_
          refine AllReadyH.cons rfl (fun K hK => ?_) ?_
          · go_simp
            refine hK.out _ _ (HSZ.out _ ((U0.out.alloc (.cells #[.int .i64 Y] 3)).alloc (.cells #[.int .i64 X] 3))) (fun _ => ?_)
            change wpAnyH _ _ _ _ _ 2 #[true, true, true, true, false, true, true, true, true, false] { tmps := #[.agg #[.slice (some ⟨g, 0, none⟩) 128 c, .slice sa sn sc], .func (.func 94) #[] #[.pointer (some ⟨m1, 0, none⟩), .pointer (some ⟨m1 + 1, 0, none⟩)], .pointer (some ⟨g2, 0, none⟩), .pointer (some ⟨g3, 0, none⟩), .pointer (some ⟨g4, 0, none⟩), .pointer (some ⟨g5, 0, none⟩), .int .i64 (k : Nat), .pointer (some ⟨s0, 0, none⟩), undef, .pointer (some ⟨q9, 0, none⟩), .agg #[.slice (some ⟨g, 0, none⟩) 128 c, .slice sa sn sc], .func (.func 110) #[] #[.pointer (some ⟨B, 0, none⟩)], .int .i64 (k : Nat), .agg #[.int .i64 (f : Nat), .int .i64 (t : Nat)], .pointer (some ⟨g2, 0, none⟩), .slice (some ⟨g, 0, none⟩) 128 c, .pointer (some ⟨s0, 0, none⟩), .int .i64 (f : Nat), .pointer (some ⟨s0, 1, none⟩), .int .i64 (t : Nat), .slice (some ⟨g, f * 2, none⟩) x (c - f), .int .i64 (x : Nat), .int .i64 (j : Nat), .bool true, .pointer (some ⟨g, f * 2 + j * 2, none⟩), .agg #[.int .i64 x0, .int .i64 y0], .func (.func 94) #[] #[.pointer (some ⟨m1, 0, none⟩), .pointer (some ⟨m1 + 1, 0, none⟩)], .int .i64 (k : Nat), .agg #[.int .i64 x0, .int .i64 y0], .agg #[.int .i64 X, .int .i64 Y], .slice va0 n vc, .pointer (some ⟨q9, 0, none⟩), .int .i64 X, .slice (some ⟨w5.heap.size + 1, 0, none⟩) 1 1, u34, .slice vb0 n vd, .pointer (some ⟨q9, 1, none⟩), .int .i64 Y, .slice (some ⟨w5.heap.size, 0, none⟩) 1 1, u39, u40, undef, undef], defers := [] } ((w5.drew.alloc (.cells #[.int .i64 Y] 3)).alloc (.cells #[.int .i64 X] 3))
            refine wpAnyH_ready (rs := [4]) (by kernel_rfl) (by simp) ?_
            refine AllReadyH.cons rfl (fun K hK => ?_) ?_
            · refine step_append_lies _ (by rfl) _ _ _ (by rfl) (W.heap.size + 2) 3 i0 (.int .i64 0) 1 8 Try.underlying22 hii hz0 hz1 hz2 (by rfl) (by decide) _ n (i64s xs) (by rfl) (by exact ((U0.out.alloc (.cells #[.int .i64 Y] 3)).alloc (.cells #[.int .i64 X] 3)).row HT5.out.ra (fun q _ => noB q)) ⟨w5.heap.size + 1, 0, none⟩ 1 1 [.int .i64 X] (by rfl) (by rfl) (by exact World.news_of_block ((boxes2 w5.drew (.cells #[.int .i64 Y] 3) (.cells #[.int .i64 X] 3)).2.1)) (by intro q hq; rw [List.mem_singleton] at hq; subst hq; rfl) (by decide) C3.out C4.out (by exact Nat.le_trans HVs5.out ((U0.out.alloc (.cells #[.int .i64 Y] 3)).alloc (.cells #[.int .i64 X] 3)).size) _ (by rfl) ?_
              intro g6 c6 w6 hown6 hg6 hat6 hlt6
              have HX := Lib.hid (HMid.out _ w6 g6 c6 ((U0.out.alloc (.cells #[.int .i64 Y] 3)).alloc (.cells #[.int .i64 X] 3)) hg6 hat6)
              have HF := Lib.hid (HFin.out _ w6 g6 c6 ((U0.out.alloc (.cells #[.int .i64 Y] 3)).alloc (.cells #[.int .i64 X] 3)) hown6 hg6 hat6)
              have HNb := Lib.hid (HCa.out _ w6 _ _ ((U0.out.alloc (.cells #[.int .i64 Y] 3)).alloc (.cells #[.int .i64 X] 3)) hg6 ((Nat.le_refl _)) ((boxes2 w5.drew (.cells #[.int .i64 Y] 3) (.cells #[.int .i64 X] 3)).1))
              clear hown6 hg6 hat6 hlt6
              refine hK.out _ _ (HX.out.1 _ (Upd.refl NoB w6)) (fun _ => ?_)
              change wpAnyH _ _ _ _ _ 1 #[true, true, true, true, true, true, true, true, true, false] { tmps := #[.agg #[.slice (some ⟨g, 0, none⟩) 128 c, .slice sa sn sc], .func (.func 94) #[] #[.pointer (some ⟨m1, 0, none⟩), .pointer (some ⟨m1 + 1, 0, none⟩)], .pointer (some ⟨g2, 0, none⟩), .pointer (some ⟨g3, 0, none⟩), .pointer (some ⟨g4, 0, none⟩), .pointer (some ⟨g5, 0, none⟩), .int .i64 (k : Nat), .pointer (some ⟨s0, 0, none⟩), undef, .pointer (some ⟨q9, 0, none⟩), .agg #[.slice (some ⟨g, 0, none⟩) 128 c, .slice sa sn sc], .func (.func 110) #[] #[.pointer (some ⟨B, 0, none⟩)], .int .i64 (k : Nat), .agg #[.int .i64 (f : Nat), .int .i64 (t : Nat)], .pointer (some ⟨g2, 0, none⟩), .slice (some ⟨g, 0, none⟩) 128 c, .pointer (some ⟨s0, 0, none⟩), .int .i64 (f : Nat), .pointer (some ⟨s0, 1, none⟩), .int .i64 (t : Nat), .slice (some ⟨g, f * 2, none⟩) x (c - f), .int .i64 (x : Nat), .int .i64 (j : Nat), .bool true, .pointer (some ⟨g, f * 2 + j * 2, none⟩), .agg #[.int .i64 x0, .int .i64 y0], .func (.func 94) #[] #[.pointer (some ⟨m1, 0, none⟩), .pointer (some ⟨m1 + 1, 0, none⟩)], .int .i64 (k : Nat), .agg #[.int .i64 x0, .int .i64 y0], .agg #[.int .i64 X, .int .i64 Y], .slice va0 n vc, .pointer (some ⟨q9, 0, none⟩), .int .i64 X, .slice (some ⟨w5.heap.size + 1, 0, none⟩) 1 1, .slice (some ⟨g6, 0, none⟩) (n + 1) c6, .slice vb0 n vd, .pointer (some ⟨q9, 1, none⟩), .int .i64 Y, .slice (some ⟨w5.heap.size, 0, none⟩) 1 1, u39, u40, undef, undef], defers := [] } w6
              refine wpAnyH_ready (rs := [9]) (by kernel_rfl) (by simp) ?_
              refine AllReadyH.cons rfl (fun K hK => ?_) ?_
              · refine step_append_lies _ (by rfl) _ _ _ (by rfl) (W.heap.size + 2) 3 i0 (.int .i64 0) 1 8 Try.underlying22 hii hz0 hz1 hz2 (by rfl) (by decide) _ n (i64s ys) (by rfl) (by exact (Upd.refl NoB w6).row HX.out.2.1 (fun q _ => noB q)) ⟨w5.heap.size, 0, none⟩ 1 1 [.int .i64 Y] (by rfl) (by rfl) (by exact World.news_of_block HNb.out) (by intro q hq; rw [List.mem_singleton] at hq; subst hq; rfl) (by decide) C3.out C4.out (by exact Nat.le_trans HX.out.2.2 (Upd.refl NoB w6).size) _ (by rfl) ?_
                intro g8 c8 w9 hown9 hg9 hat9 hlt9
                have HE := Lib.hid (HF.out _ w9 g8 c8 (Upd.refl NoB w6) hown9 hg9 hat9)
                clear hown9 hg9 hat9 hlt9
                refine hK.out _ _ HE.out.1 (fun _ => ?_)
                change wpAnyH _ _ _ _ _ 0 #[true, true, true, true, true, true, true, true, true, true] { tmps := #[.agg #[.slice (some ⟨g, 0, none⟩) 128 c, .slice sa sn sc], .func (.func 94) #[] #[.pointer (some ⟨m1, 0, none⟩), .pointer (some ⟨m1 + 1, 0, none⟩)], .pointer (some ⟨g2, 0, none⟩), .pointer (some ⟨g3, 0, none⟩), .pointer (some ⟨g4, 0, none⟩), .pointer (some ⟨g5, 0, none⟩), .int .i64 (k : Nat), .pointer (some ⟨s0, 0, none⟩), undef, .pointer (some ⟨q9, 0, none⟩), .agg #[.slice (some ⟨g, 0, none⟩) 128 c, .slice sa sn sc], .func (.func 110) #[] #[.pointer (some ⟨B, 0, none⟩)], .int .i64 (k : Nat), .agg #[.int .i64 (f : Nat), .int .i64 (t : Nat)], .pointer (some ⟨g2, 0, none⟩), .slice (some ⟨g, 0, none⟩) 128 c, .pointer (some ⟨s0, 0, none⟩), .int .i64 (f : Nat), .pointer (some ⟨s0, 1, none⟩), .int .i64 (t : Nat), .slice (some ⟨g, f * 2, none⟩) x (c - f), .int .i64 (x : Nat), .int .i64 (j : Nat), .bool true, .pointer (some ⟨g, f * 2 + j * 2, none⟩), .agg #[.int .i64 x0, .int .i64 y0], .func (.func 94) #[] #[.pointer (some ⟨m1, 0, none⟩), .pointer (some ⟨m1 + 1, 0, none⟩)], .int .i64 (k : Nat), .agg #[.int .i64 x0, .int .i64 y0], .agg #[.int .i64 X, .int .i64 Y], .slice va0 n vc, .pointer (some ⟨q9, 0, none⟩), .int .i64 X, .slice (some ⟨w5.heap.size + 1, 0, none⟩) 1 1, .slice (some ⟨g6, 0, none⟩) (n + 1) c6, .slice vb0 n vd, .pointer (some ⟨q9, 1, none⟩), .int .i64 Y, .slice (some ⟨w5.heap.size, 0, none⟩) 1 1, .slice (some ⟨g8, 0, none⟩) (n + 1) c8, u40, undef, undef], defers := [] } w9
                refine wpAnyH_done (by kernel_rfl) ?_ _
                change wpList _ _ _ _ _ w9
                obtain ⟨⟨e4, e5⟩, ht11, u11⟩ := HE.out.2
                have m4 := blk_cell e4 0
                have mf4 := blk_free e4 0
                have m5 := blk_cell e5 0
                have mf5 := blk_free e5 0
                have hne : g4 ≠ g5 := HGs2.out.2.2.1
                have HT11 := Lib.hid ht11
                have U11 := Lib.hid (HRel.out _ u11)
                clear e4 e5 ht11 u11
                repeat clear hK K
                go_wp2_with fail
                gi_wp2
                go_roundw
                case rel => exact ⟨j + 1, _, _, by have := HJ.out; omega, by go_num, by rw [← Nat.add_assoc, HNn.out, HSa.out, HSb.out]; exact HT11.out, HKf.out.trans U11.out.1, HKd.out.trans U11.out.2.1, Nat.le_trans HVw.out U11.out.2.2⟩
                case measure => have := HJ.out; simp [intOf]; omega
              exact AllReadyH.nil
            exact AllReadyH.nil
          exact AllReadyH.nil
        exact AllReadyH.nil
      · obtain rfl : j = x := by omega
        have HTr := Lib.hid ht; have HKf := Lib.hid hkf; have HKd := Lib.hid hkd; have HVw := Lib.hid hvs
        clear ht hkf hkd hvs hlt
        gi_wp2
        exact ⟨HKf.out, ⟨⟨HKd.out, HVw.out⟩, fun j h1 h2 => by omega⟩, ⟨_, _, by rw [← HTt.out]; exact HTr.out⟩⟩
  case done =>
    rintro D V hD ⟨va, vb, ht⟩ hK
    rw [HEnd.out] at ht
    obtain ⟨va0, vc, rfl⟩ := row_form ht.ra
    obtain ⟨vb0, vd, rfl⟩ := row_form ht.rb
    have d0 := blk_cell ht.ha 0
    have d1 := blk_cell ht.hb 0
    have f0 := blk_free ht.ha 0
    have f1 := blk_free ht.hb 0
    have HTr := Lib.hid ht; have HKd := Lib.hid hK; have HDl := Lib.hid hD
    have hne : g4 ≠ g5 := by have := HG5.out; omega
    clear ht hK
    go_wp2_with fail
    go_region_law (fail)
    all_goals
      go_wp2_with fail
      have ht := HTr.out
      have hWD : W.heap.size ≤ D := HDl.out
      have hg5W : g5 + 1 < W.heap.size := HSz.out
      have hg4W : g4 < g5 := by have := HG5.out; omega
      have us : Upd (fun j => j = g4 ∨ j = g5) V (((V.setCell ⟨g4, 0, none⟩ (.slice va0 128 vc)).setCell ⟨g5, 0, none⟩ (.slice vb0 128 vd)).drew) := (((Upd.refl (fun j => j = g4 ∨ j = g5) V).setCell (p := ⟨g4, 0, none⟩) _ (fun _ => .inl rfl)).setCell (p := ⟨g5, 0, none⟩) _ (fun _ => .inr rfl)).drew
      have hD9 : (((V.setCell ⟨g4, 0, none⟩ (.slice va0 128 vc)).setCell ⟨g5, 0, none⟩ (.slice vb0 128 vd)).drew).heap[D]? = some (.deferred (some [])) := us.heap HKd.out (fun e => by omega)
      have h4 : (((V.setCell ⟨g4, 0, none⟩ (.slice va0 128 vc)).setCell ⟨g5, 0, none⟩ (.slice vb0 128 vd)).drew).heap[g4]? = some (.cells #[.slice va0 128 vc] 22 (0, 0)) := block_keep (block_set ht.ha _) (by simp only; omega) _
      have h5 : (((V.setCell ⟨g4, 0, none⟩ (.slice va0 128 vc)).setCell ⟨g5, 0, none⟩ (.slice vb0 128 vd)).drew).heap[g5]? = some (.cells #[.slice vb0 128 vd] 22 (0, 0)) := block_set (block_keep ht.hb (by simp only; omega) _) _
      have hra := us.row ht.ra (fun j hj e => by have := (ht.ra.lt j hj).1; omega)
      have hrb := us.row ht.rb (fun j hj e => by have := (ht.rb.lt j hj).1; omega)
      have uall : Upd NoB w (((V.setCell ⟨g4, 0, none⟩ (.slice va0 128 vc)).setCell ⟨g5, 0, none⟩ (.slice vb0 128 vd)).drew) := HU.out.trans (ht.u.trans us (fun _ _ h => h)) (fun j hj e => by have := HG2.out; have := HG3.out; have := HG4.out; omega)
      have hws : w.heap.size ≤ W.heap.size + 2 := by have := HU.out.size; omega
      generalize ((V.setCell ⟨g4, 0, none⟩ (.slice va0 128 vc)).setCell ⟨g5, 0, none⟩ (.slice vb0 128 vd)).drew = Vf at *
      refine ⟨by simp, .inl ⟨_, _, rfl, run_takeDeferred hD9, ?_⟩⟩
      refine ⟨_, results_two rfl _ _ g4 g5 _ _ rfl rfl (blk_cell ((World.putObj_heap_other (by omega)).trans h4) 0) (blk_cell ((World.putObj_heap_other (by omega)).trans h5) 0), va0, vc, vb0, vd, rfl, ?_, ?_, ?_⟩
      · exact row_base (srow_grown hra (grownBy_putObj' _ _ _) (fun r e => by cases e; exact .inr ⟨_, hD9, rfl⟩)) hws
      · exact row_base (srow_grown hrb (grownBy_putObj' _ _ _) (fun r e => by cases e; exact .inr ⟨_, hD9, rfl⟩)) hws
      · exact uall.grown (grownBy_putObj' _ _ _) (fun k e hlt => by cases e; have := HU.out.size; omega)
end Go.Proofs.Ytopjjdfnnjgnlaa
