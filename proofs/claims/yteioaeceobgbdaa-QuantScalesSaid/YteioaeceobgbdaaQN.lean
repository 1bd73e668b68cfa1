/- quant: keeps -/
import Derived.Test.YteioaeceobgbdaaQM
namespace Go.Proofs.Yteioaeceobgbdaa
open Go.RowKit Go.Shelf
attribute [local go_sem] Oper.semAt_some

theorem boxes3' (W : World) (o0 o1 o2 : Obj) : (((W.alloc o0).alloc o1).alloc o2).heap[W.heap.size]? = some o0 ∧ (((W.alloc o0).alloc o1).alloc o2).heap[W.heap.size + 1]? = some o1 ∧ (((W.alloc o0).alloc o1).alloc o2).heap[W.heap.size + 2]? = some o2 ∧ Upd NoB W (((W.alloc o0).alloc o1).alloc o2) := by
  obtain ⟨h0, h1, h2⟩ := boxes2 W o0 o1
  have s1 : ((W.alloc o0).alloc o1).heap.size = W.heap.size + 2 := by simp
  have h3 := heap_alloc_new ((W.alloc o0).alloc o1) o2
  rw [s1] at h3
  exact ⟨(Below.heap_alloc _ _ _ (by omega)).trans h0, (Below.heap_alloc _ _ _ (by omega)).trans h1, h3, h2.alloc _⟩
theorem load_b (w : World) (g : Nat) (x : Value) (hg : w.cell? ⟨g, 0, none⟩ = some x) : (loadVar 4 ⟨g, 0, none⟩).run Try.prog w = .ok x w := by
  simp [loadVar, Sem.run_bind, Result.andThen, hg, go_sem]
theorem results_b {fn : Func} {p : Tmp} (h : fn.results = #[.cell p 4]) (tmps : Array Value) (w : World) (g : Nat) (x : Value)
    (hp : tmps.getD p undef = .pointer (some ⟨g, 0, none⟩)) (hg : w.cell? ⟨g, 0, none⟩ = some x) : (results fn tmps).run Try.prog w = .ok x w := by
  have l1 := load_b w g x hg
  have hp' : tmps[p]?.getD undef = .pointer (some ⟨g, 0, none⟩) := by simpa using hp
  simp [results, h, hp', asAddr, l1]
theorem Memo.grown {A B : World} {b : Nat} {row : Option Nat} (h : Memo A b) (hg : A.grownBy B row) (hr : ∀ r, row = some r → r ≠ b) : Memo B b := by
  obtain ⟨fs, h1, h2, h3⟩ := h
  exact ⟨fs, (hg.block _ (lt_of_block h1) (fun e => hr _ e.symm rfl)).trans h1, h2, h3⟩
theorem fold_mono : ∀ (zs : List Int) (a b : Int), a ≤ b → (∀ z ∈ zs, 0 ≤ z) → a ≤ zs.foldl (fun s x => s + x) b
  | [], _, _, h, _ => h
  | z :: zs, a, b, h, hz => fold_mono zs a (b + z) (by have := hz z (List.mem_cons_self ..); omega) (fun y hy => hz y (List.mem_cons_of_mem _ hy))
theorem fold_take (zs : List Int) (k : Nat) (hz : ∀ z ∈ zs, 0 ≤ z) : (zs.take k).foldl (fun s x => s + x) 0 ≤ zs.foldl (fun s x => s + x) 0 := by
  conv => rhs; rw [← List.take_append_drop k zs, List.foldl_append]
  exact fold_mono _ _ _ (Int.le_refl _) (fun z h => hz z (List.mem_of_mem_drop h))
theorem nsL_take {s : Nat} {cs : List Int} (hs : s ≤ 95) (hcs : ∀ c ∈ cs, 0 ≤ c ∧ c ≤ 2097152) (k : Nat) : ((cs.take k).map (loN s)).foldl (fun s x => s + x) 0 ≤ nsL s cs := by
  rw [List.map_take]
  exact fold_take _ k (fun z hz => by rw [List.mem_map] at hz; obtain ⟨c, hc, rfl⟩ := hz; exact (loN_bd hs (hcs c hc)).1)
/-- what is left of the limit, and the result's cell -/
def KInv (S b : Nat) (lim : Int) (W : World) (pre : List Ls) (W' : World) : Prop := (W'.heap[S + 1]? = some (.cells #[.int .i64 (lim - lsum pre)] 3 (0, 0)) ∧ W'.heap[S + 1 + 1]? = some (.cells #[.bool false] 4 (0, 0)) ∧ Memo W' b) ∧ 0 ≤ lim - lsum pre ∧ Upd (fun k => (k = S + 1 ∨ k = S + 1 + 1) ∨ k = b) W W'
def KOut (S b : Nat) (lim : Int) (W : World) (c : Code) (pre : List Ls) (W' : World) : Prop := c = .ret ∧ (W'.heap[S + 1 + 1]? = some (.cells #[.bool false] 4 (0, 0)) ∧ Memo W' b) ∧ lim - lsum pre < 0 ∧ Upd (fun k => (k = S + 1 ∨ k = S + 1 + 1) ∨ k = b) W W'
theorem KInv.own {S b : Nat} {lim : Int} {W : World} (hs : S + 1 + 1 < W.heap.size) (hb : b < W.heap.size) : OwnFrom W.heap.size (KInv S b lim W) := by
  rintro pre A B row ⟨⟨h1, h2, h3⟩, h4, h5⟩ hg hr
  refine ⟨⟨(hg.block _ (lt_of_block h1) (fun e => ?_)).trans h1, (hg.block _ (lt_of_block h2) (fun e => ?_)).trans h2, h3.grown hg (fun r e h => ?_)⟩, h4, h5.grown hg (fun j e hk => ?_)⟩
  · have := (hr _ e.symm).1; omega
  · have := (hr _ e.symm).1; omega
  · have := (hr _ e).1; omega
  · have := (hr j e).1; omega
theorem KOut.own {S b : Nat} {lim : Int} {W : World} (hs : S + 1 + 1 < W.heap.size) (hb : b < W.heap.size) (c : Code) : OwnFrom W.heap.size (KOut S b lim W c) := by
  rintro pre A B row ⟨hc, ⟨h2, h3⟩, h4, h5⟩ hg hr
  refine ⟨hc, ⟨(hg.block _ (lt_of_block h2) (fun e => ?_)).trans h2, h3.grown hg (fun r e h => ?_)⟩, h4, h5.grown hg (fun j e hk => ?_)⟩
  · have := (hr _ e.symm).1; omega
  · have := (hr _ e).1; omega
  · have := (hr j e).1; omega
theorem KInv.step {S b : Nat} {lim : Int} {W : World} (n1 : S + 1 ≠ b) (n2 : S + 1 + 1 ≠ b) : ∀ s A B, KInv S b lim W s A → (Upd (fun k => k = b) A B ∧ Memo B b) → KInv S b lim W s B := fun _ _ _ ⟨⟨h1, h2, _⟩, h4, h5⟩ ⟨u, m⟩ => ⟨⟨u.heap h1 n1, u.heap h2 n2, m⟩, h4, h5.trans u (fun _ _ h => .inr h)⟩
theorem KOut.step {S b : Nat} {lim : Int} {W : World} (n2 : S + 1 + 1 ≠ b) : ∀ c s A B, KOut S b lim W c s A → (Upd (fun k => k = b) A B ∧ Memo B b) → KOut S b lim W c s B := fun _ _ _ _ ⟨hc, ⟨h2, _⟩, h4, h5⟩ ⟨u, m⟩ => ⟨hc, ⟨u.heap h2 n2, m⟩, h4, h5.trans u (fun _ _ h => .inr h)⟩
set_option maxRecDepth 100000 in
set_option maxHeartbeats 4000000 in
theorem keeps_any (sc : Int) (s b : Nat) (sv : Value) (cs : List Int) (lim : Int) (w : World) (h : Memo w b) (hs : s ≤ 95) (hcs : ∀ c ∈ cs, 0 ≤ c ∧ c ≤ 2097152) (hlen : cs.length ≤ 128) (hx : Ints w sv cs) (hsv : cs ≠ [] → ∀ k, sv.ownBlock = some k → k ≠ b ∧ k < w.heap.size) (hlim : 0 ≤ lim ∧ lim ≤ 72057594037927936) :
    Calls Try.prog 70 #[.agg #[.int .i64 sc, .int .i64 (stepN s : Nat), .pointer (some ⟨b, 0, none⟩)], sv, .int .i64 lim] w fun e w' => e = .returned (.bool (decide (nsL s cs ≤ lim))) ∧ Memo w' b ∧ Upd (fun k => k = b) w w' := by
  obtain ⟨W, hW⟩ : ∃ W, W = ((w.alloc (.cells #[.int .i64 sc, .int .i64 (stepN s : Nat), .pointer (some ⟨b, 0, none⟩)] 57)).alloc (.cells #[.int .i64 lim] 3)).alloc (.cells #[.bool false] 4) := ⟨_, rfl⟩
  obtain ⟨b0, b1, b2, hu⟩ := boxes3' w (.cells #[.int .i64 sc, .int .i64 (stepN s : Nat), .pointer (some ⟨b, 0, none⟩)] 57) (.cells #[.int .i64 lim] 3) (.cells #[.bool false] 4)
  rw [← hW] at b0 b1 b2 hu
  have b2 : W.heap[w.heap.size + 1 + 1]? = some (.cells #[.bool false] 4 (0, 0)) := b2
  have HW := Lib.hid hW; have B1 := Lib.hid b1; have B2 := Lib.hid b2; have HU := Lib.hid hu; have HM := Lib.hid (h.later hu); have HX := Lib.hid (hx.later hu)
  have HTk := Lib.hid (fun k => nsL_take hs hcs k)
  have HLm := Lib.hid hlim
  have HbS := Lib.hid h.lt
  have HSV := Lib.hid hsv
  have HSZ := Lib.hid (lt_of_block b2)
  obtain ⟨⟨d0, d1, d2⟩, _, _, _⟩ := cells3 b0
  have HSq := Lib.hid (fun B w4 hR1 hR2 hRb hRs n1 n2 c0 c1 m i => losses1_seq B b s sc sv cs (fun k => k = w.heap.size + 1 ∨ k = w.heap.size + 1 + 1) w4 hs hcs hlen hR1 hR2 hRb hRs n1 n2 c0 c1 m i)
  have HLen := Lib.hid hlen
  obtain ⟨a, cap, rfl⟩ := hx.form
  obtain ⟨L, hL⟩ : ∃ L, cs.length = L := ⟨_, rfl⟩
  rw [hL] at HSq HX HSV HLen ⊢
  obtain ⟨S, hS⟩ : ∃ S, w.heap.size = S := ⟨_, rfl⟩
  have HSs := Lib.hid hS
  rw [hS] at b0 b1 b2 B1 B2 HbS HSV HSq HSZ d0 d1 d2
  clear h hs hcs hlen hx hsv hlim hW b0 b1 b2 hu hL hS
  refine (callsIn_wide (n := 2)).1 ?_
  refine callsIn_of_wp_marks Try.func70 rfl trivial (wpIn_wide.2 ?_) rfl
  simp only [Try.ntmps70, List.size_toArray, List.length_cons, List.length_nil, Nat.reduceAdd, Nat.reduceSub, Array.replicate_succ, Array.replicate_zero, List.push_toArray, List.append_toArray, List.nil_append, List.cons_append]
  go_wp2_with fail
  rw [← HW.out, HSs.out]
  refine (losses_any _ _ _ _ _ _ _).mono ?_
  rintro e w4 ⟨rfl, hw4⟩
  obtain ⟨c0, c1, hu⟩ := boxes2 W (.cells #[.int .i64 sc, .int .i64 (stepN s : Nat), .pointer (some ⟨b, 0, none⟩)] 57) (.cells #[.slice a L cap] 28)
  rw [← hw4] at c0 c1 hu
  have U4 := Lib.hid (HU.out.then hu); have M4 := Lib.hid (HM.out.later hu); have I4 := Lib.hid (HX.out.later hu); have B14 := Lib.hid (hu.heap B1.out (noB _)); have B24 := Lib.hid (hu.heap B2.out (noB _))
  obtain ⟨B, hB⟩ : ∃ B, W.heap.size = B := ⟨_, rfl⟩
  have hsz2 := HSZ.out
  rw [hB] at c0 c1 hsz2 ⊢
  have hsz := lt_of_block c1
  have hbs := HbS.out
  have HSq4 := Lib.hid (HSq.out B w4 (by show ¬ (B = S + 1 ∨ B = S + 1 + 1); omega) (by show ¬ (B + 1 = S + 1 ∨ B + 1 = S + 1 + 1); omega) (by show ¬ (b = S + 1 ∨ b = S + 1 + 1); omega)
    (fun hne k hk e => by have := HSV.out hne k hk; rcases e with e | e <;> omega) (by omega) (by omega) c0 c1 M4.out I4.out)
  have HZ := Lib.hid (And.intro hsz (And.intro hsz2 hbs))
  clear hw4 c0 c1 hu hB hsz hsz2 hbs d0 d1 d2
  go_wp2_with fail
  refine (wpIn_wide (n := 2)).1 (wpIn_rangeT rfl (by omega) (gf := 100) (lb := #[.pointer (some ⟨B + 1, 0, none⟩), .pointer (some ⟨B, 0, none⟩)]) rfl trivial (enters_of Try.func100 (by kernel_rfl) rfl)
    HSq4.out (fun h k => h.trans k) (fun W l o o' _ h ho => kpC_putObj h ho) (fun X Y ht k o hk hX _ => ht.1.heap hX (fun e => by have := HZ.out; omega)) (Below.refl _ _) (fun _ => rfl)
    (KInv S b lim w4) (KOut S b lim w4) (KInv.own (by have := HZ.out; omega) (by have := HZ.out; omega)) (KOut.own (by have := HZ.out; omega) (by have := HZ.out; omega)) (KInv.step (by have := HZ.out; omega) (by have := HZ.out; omega)) (KOut.step (by have := HZ.out; omega)) (fun _ _ _ _ _ _ _ _ _ => trivial) ⟨⟨by rw [show lsum [] = 0 from rfl, Int.sub_zero]; exact B14.out, B24.out, M4.out⟩, by rw [show lsum [] = 0 from rfl, Int.sub_zero]; exact HLm.out.1, Upd.refl _ _⟩
    (fun x a' _ => a' = { tmps := #[.agg #[.int .i64 sc, .int .i64 (stepN s : Nat), .pointer (some ⟨b, 0, none⟩)], .slice a L cap, .int .i64 lim, .pointer (some ⟨S, 0, none⟩), undef, .pointer (some ⟨S + 1, 0, none⟩), .pointer (some ⟨S + 1 + 1, 0, none⟩), .int .i64 x.1, .agg #[.int .i64 sc, .int .i64 (stepN s : Nat), .pointer (some ⟨b, 0, none⟩)], .slice a L cap, .func (.func 100) #[] #[.pointer (some ⟨B + 1, 0, none⟩), .pointer (some ⟨B, 0, none⟩)], .int .i64 x.1, undef, undef, undef, undef, undef], defers := [] }) (fun _ _ _ _ _ _ h _ _ => h) ?assign ?body ?done ?stop)
  case assign =>
    intro l pre x W' K' hi _ hK'
    gi_wp2
    exact hK' _ _ (KeepsFrom.refl _ _) (KpC.refl _ _) hi trivial rfl
  case body =>
    rintro l pre x a' W' ⟨⟨h1, h2, h3⟩, h4, h5⟩ _ rfl _ hN
    obtain ⟨b0, _⟩ := lsum_bd pre
    have hx := x.2
    have hV : lim - lsum pre ≤ 72057594037927936 := by have := HLm.out; omega
    have HSn := Lib.hid (show lim - lsum (pre ++ [x]) = lim - lsum pre - x.1 by rw [lsum_snoc]; omega)
    have c0 := blk_cell h1 0
    have f0 := blk_free h1 0
    have c1 := blk_cell h2 0
    have f1 := blk_free h2 0
    have H1 := Lib.hid h1; have H2 := Lib.hid h2; have H3 := Lib.hid h3; have H5 := Lib.hid h5
    obtain ⟨x, hx'⟩ := x
    simp only at *
    generalize lim - lsum pre = V at *
    have z1 : wrap64 (V - x) = V - x := IntWalk.wrap64_in _ (by omega)
    have z2 : IntKind.i64.wrap (V - x) = V - x := IntWalk.i64_in _ (by clear z1; omega)
    have us : Upd (fun k => k = S + 1) W' (W'.setCell ⟨S + 1, 0, none⟩ (.int .i64 (V - x))) := (Upd.refl _ _).setCell _ (fun _ => rfl)
    have US := Lib.hid us
    have M3 := Lib.hid (H3.out.upd us (fun e => by have := HZ.out; have e : b = S + 1 := e; clear z1 z2; omega))
    by_cases hneg : V - x < 0
    · have t1 : decide (V - x < 0) = true := decide_eq_true hneg
      have HNg := Lib.hid hneg
      clear h1 h2 h3 h4 h5 b0 hV hx hN hneg us
      gi_wp2
      have u2 : Upd (fun k => k = S + 1 ∨ k = S + 1 + 1) W' ((W'.setCell ⟨S + 1, 0, none⟩ (.int .i64 (V - x))).setCell ⟨S + 1 + 1, 0, none⟩ (.bool false)) := (US.out.mono (fun _ _ h => .inl h)).setCell _ (fun _ => .inr rfl)
      exact ⟨keeps_of_upd u2 (fun k hk e => by have := HZ.out; have e : k = S + 1 ∨ k = S + 1 + 1 := e; clear z1 z2; omega), rfl, ⟨block_set (US.out.heap H2.out (fun e => by have e : S + 1 + 1 = S + 1 := e; clear z1 z2; omega)) _, H3.out.upd u2 (fun e => by have := HZ.out; have e : b = S + 1 ∨ b = S + 1 + 1 := e; clear z1 z2; omega)⟩, by rw [HSn.out]; exact HNg.out, H5.out.trans u2 (fun _ _ h => .inl h)⟩
    · have t1 : decide (V - x < 0) = false := decide_eq_false hneg
      have HNg := Lib.hid (show 0 ≤ V - x by clear z1 z2; omega)
      clear h1 h2 h3 h4 h5 b0 hV hx hN hneg us
      gi_wp2
      exact ⟨keeps_of_upd US.out (fun k hk e => by have := HZ.out; have e : k = S + 1 := e; clear z1 z2; omega), US.out.kpC (fun _ h _ => .inl h), ⟨by rw [HSn.out]; exact block_set H1.out _, US.out.heap H2.out (fun e => by have e : S + 1 + 1 = S + 1 := e; clear z1 z2; omega), M3.out⟩, by rw [HSn.out]; exact HNg.out, H5.out.trans US.out (fun _ _ h => .inl (.inl h))⟩
  case done =>
    rintro D ws W' hD hS ⟨⟨h1, h2, h3⟩, h4, h5⟩ hK
    have HR := Lib.hid (show decide (nsL s cs ≤ lim) = true from decide_eq_true (by rw [show nsL s cs = lsum ws from (lsum_is hS).symm]; omega))
    have c1 := blk_cell h2 0
    have f1 := blk_free h2 0
    have H2 := Lib.hid h2; have H3 := Lib.hid h3; have H5 := Lib.hid h5; have HK := Lib.hid hK; have HDw := Lib.hid hD
    clear h1 h2 h3 h4 h5 hS hD hK
    go_wp2
    have us : Upd (fun k => k = S + 1 + 1) W' (W'.setCell ⟨S + 1 + 1, 0, none⟩ (.bool true)) := (Upd.refl _ _).setCell _ (fun _ => rfl)
    have hD := HDw.out
    have hz := HZ.out
    have hkd : (W'.setCell ⟨S + 1 + 1, 0, none⟩ (.bool true)).heap[D]? = some (.deferred (some [])) := us.heap HK.out (fun e => by have e : D = S + 1 + 1 := e; omega)
    refine ⟨by simp, .inl ⟨_, _, rfl, run_takeDeferred hkd, ?_⟩⟩
    have hall : Upd (fun k => k = b ∨ w.heap.size ≤ k) w ((W'.setCell ⟨S + 1 + 1, 0, none⟩ (.bool true)).putObj D (.deferred none)) :=
      (((U4.out.mono (T := fun k => k = b ∨ w.heap.size ≤ k) (fun _ _ h => h.elim)).trans H5.out (fun k _ h => by have := HSs.out; have h : (k = S + 1 ∨ k = S + 1 + 1) ∨ k = b := h; omega)).trans us (fun k _ h => by have := HSs.out; have h : k = S + 1 + 1 := h; omega)).grown (grownBy_putObj' _ _ _) (fun k e hlt => by cases e; have := U4.out.size; omega)
    refine ⟨_, results_b rfl _ _ (S + 1 + 1) (.bool true) rfl (blk_cell ((World.putObj_heap_other (by omega)).trans (block_set H2.out _)) 0), by rw [HR.out], (H3.out.upd us (fun e => by have e : b = S + 1 + 1 := e; omega)).grown (grownBy_putObj' _ _ _) (fun r e => by cases e; omega), hall.mono (fun k hk h => by omega)⟩
  case stop =>
    rintro D c pre W' hD ⟨k, hS⟩ ⟨rfl, ⟨h2, h3⟩, h4, h5⟩ hK
    have HR := Lib.hid (show decide (nsL s cs ≤ lim) = false from decide_eq_false (by have := HTk.out k; rw [← lsum_is hS] at this; omega))
    have H2 := Lib.hid h2; have H3 := Lib.hid h3; have H5 := Lib.hid h5; have HK := Lib.hid hK; have HDw := Lib.hid hD
    clear h2 h3 h4 h5 hS hD hK
    refine wpIn_wide.2 ?_
    go_wp2
    have hD := HDw.out
    have hz := HZ.out
    refine ⟨by simp, .inl ⟨_, _, rfl, run_takeDeferred HK.out, ?_⟩⟩
    have hall : Upd (fun k => k = b ∨ w.heap.size ≤ k) w (W'.putObj D (.deferred none)) :=
      ((U4.out.mono (T := fun k => k = b ∨ w.heap.size ≤ k) (fun _ _ h => h.elim)).trans H5.out (fun k _ h => by have := HSs.out; have h : (k = S + 1 ∨ k = S + 1 + 1) ∨ k = b := h; omega)).grown (grownBy_putObj' _ _ _) (fun k e hlt => by cases e; have := U4.out.size; omega)
    refine ⟨_, results_b rfl _ _ (S + 1 + 1) (.bool false) rfl (blk_cell ((World.putObj_heap_other (by omega)).trans H2.out) 0), by rw [HR.out], H3.out.grown (grownBy_putObj' _ _ _) (fun r e => by cases e; omega), hall.mono (fun k hk h => by omega)⟩
end Go.Proofs.Yteioaeceobgbdaa
