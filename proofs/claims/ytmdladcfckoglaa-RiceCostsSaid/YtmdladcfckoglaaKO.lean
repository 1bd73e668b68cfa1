/- rice: the layout with the least bits -/
import Derived.Test.YtmdladcfckoglaaKN
import Derived.Deep.Quiet
namespace Go.Proofs.Ytmdladcfckoglaa
open Go.RowKit Go.Shelf
attribute [local go_sem] Oper.semAt_some

/-- a region that draws its order, reads and calls what makes memory, in a round: one walk serves every order -/
theorem region_quiet_in {id l₀ n₀ : Nat} {P : Program} {Q : Exit → Act → World → Prop} {a : Act} {w : World} {l : List Oper} (C : World → Prop) (hm : P.follows .mixedOrders = true) (hB : Region.lexB .any l.toArray = true)
    (hd : noDefer l = true) (hQ : ¬ LetsOut Q) (hC : C { w with drawn := w.drawn + 1 })
    (h : wpQuiet P l.toArray C (fun a' => ∀ w', C w' → Q .normal a' w') l a) : (Code.region id l.toArray true).wpIn (Fence.wide.inRound l₀) n₀ P Q a w := by
  simp only [Region.lexB, Bool.and_eq_true] at hB
  refine wpIn_region_any hm (any_in (noDefer_spec hd) hQ _ _ _ _ (wpAny_of_quiet (Q := fun a' => ∀ w', C w' → Q .normal a' w') (fun _ w' hw' h => h w' hw') _ _ _ _ hC ?_))
  have := wpAnyQ_lex (C := C) (md := .any) hB.1 l 0 (Array.replicate l.toArray.size false) a (by simp) (by simpa using hB.2) h
  simpa using this
/-- the worlds behind calls that leave all that was there -/
def Aft (W' : World) (Z : World) : Prop := Upd NoB W' Z
theorem lay1_any (p k : Int) (a : Option Addr) (n c : Nat) (w : World) :
    Calls Try.prog 91 #[.agg #[.int .i64 p, .slice a n c, .int .i64 k]] w fun e w' => e = .returned (.int .i64 k) ∧ Upd NoB w w' := by
  have U := Lib.hid ((Upd.refl NoB w).alloc (.cells #[.int .i64 p, .slice a n c, .int .i64 k] 76))
  go_enter Try.func91, Try.ntmps91
  go_wp2
  go_ret
  exact ⟨rfl, U.out⟩
/-- the best layout so far -/
def BOk (xs : List Int) (pre : List (LI xs.length)) (p k : Nat) (fd : Bool) : Prop :=
  (fd = false ∧ pre = []) ∨ (fd = true ∧ amL (whole xs) (pre.map (fun x => x.1.1)) = some p ∧ k = whole xs p)
theorem BOk.first {xs : List Int} {pre : List (LI xs.length)} {p k : Nat} (h : BOk xs pre p k false) (x : LI xs.length) : BOk xs (pre ++ [x]) x.1.1 (whole xs x.1.1) true := by
  rcases h with ⟨_, rfl⟩ | ⟨h, _⟩
  · exact .inr ⟨rfl, rfl, rfl⟩
  · cases h
theorem BOk.less {xs : List Int} {pre : List (LI xs.length)} {p k : Nat} (h : BOk xs pre p k true) (x : LI xs.length) (hc : whole xs x.1.1 < k) : BOk xs (pre ++ [x]) x.1.1 (whole xs x.1.1) true := by
  rcases h with ⟨h, _⟩ | ⟨_, h, rfl⟩
  · cases h
  · refine .inr ⟨rfl, ?_, rfl⟩
    rw [List.map_append, List.map_singleton, amL_snoc, h]
    exact if_pos hc
theorem BOk.more {xs : List Int} {pre : List (LI xs.length)} {p k : Nat} (h : BOk xs pre p k true) (x : LI xs.length) (hc : ¬ whole xs x.1.1 < k) : BOk xs (pre ++ [x]) p k true := by
  rcases h with ⟨h, _⟩ | ⟨_, h, rfl⟩
  · cases h
  · refine .inr ⟨rfl, ?_, rfl⟩
    rw [List.map_append, List.map_singleton, amL_snoc, h]
    exact if_neg hc
theorem keepD_alloc {D : Nat → Prop} {W : World} (o : Obj) (h : ∀ k, D k → k < W.heap.size) : KeepD D W (W.alloc o) := fun k hk => Below.heap_alloc _ _ _ (h k hk)
def LInv (xs : List Int) (s : Nat) (W : World) (pre : List (LI xs.length)) (W' : World) : Prop :=
  (∃ (p k : Nat) (fd : Bool) (a : Option Addr) (n c : Nat), W'.heap[s + 2]? = some (.cells #[.int .i64 (p : Nat), .slice a n c, .int .i64 (k : Nat)] 76 (0, 0)) ∧ W'.heap[s + 3]? = some (.cells #[.bool fd] 4 (0, 0)) ∧ BOk xs pre p k fd) ∧ Upd (fun k => k = s + 2 ∨ k = s + 3) W W'
theorem LInv.own {xs : List Int} {s : Nat} {W : World} (hs : s + 3 < W.heap.size) : OwnFrom W.heap.size (LInv xs s W) := by
  rintro pre A B row ⟨⟨p, k, fd, a, n, c, h1, h2, h3⟩, h4⟩ hg hr
  refine ⟨⟨p, k, fd, a, n, c, (hg.block _ (lt_of_block h1) (fun e => ?_)).trans h1, (hg.block _ (lt_of_block h2) (fun e => ?_)).trans h2, h3⟩, h4.grown hg (fun j e hk => ?_)⟩
  · have := (hr _ e.symm).1; omega
  · have := (hr _ e.symm).1; omega
  · have := (hr j e).1; omega
theorem lend {xs : List Int} {s B : Nat} {xa : Option Addr} {W W' Y : World} {pre : List (LI xs.length)} {p k : Nat} {fd : Bool} {a : Option Addr} {n c : Nat} {x : LI xs.length} (h4 : Upd (fun k => k = s + 2 ∨ k = s + 3) W W') (hu : Upd (fun k => k = s + 2 ∨ k = s + 3) W' Y)
    (y1 : Y.heap[s + 2]? = some (.cells #[.int .i64 (p : Nat), .slice a n c, .int .i64 (k : Nat)] 76 (0, 0))) (y2 : Y.heap[s + 3]? = some (.cells #[.bool fd] 4 (0, 0))) (hb : BOk xs (pre ++ [x]) p k fd) (hsz : s + 3 < W.heap.size)
    (hD : ∀ j, layD B xa xs j → j < s) : KeepsFrom W.heap.size W' Y ∧ KeepD (layD B xa xs) W' Y ∧ LInv xs s W (pre ++ [x]) Y :=
  ⟨keeps_of_upd hu (fun j hj e => by omega), fun j hj => hu.block j (by have := hD j hj; have := h4.size; omega) (fun e => by have := hD j hj; omega), ⟨p, k, fd, a, n, c, y1, y2, hb⟩, h4.trans hu (fun _ _ h => h)⟩
set_option maxRecDepth 100000 in
set_option maxHeartbeats 4000000 in
theorem leastL_any (B : Nat) (xa : Option Addr) (cap : Nat) (xs : List Int) (w : World) (hn : NumL xs) (hx : Ints w (.slice xa xs.length cap) xs) (hb : w.cell? ⟨B, 0, none⟩ = some (.slice xa xs.length cap)) :
    Calls Try.prog 89 #[.func (.func 105) #[] #[.pointer (some ⟨B, 0, none⟩)], .func (.func 91) #[] #[]] w fun e w' => ∃ a n c, e = .returned (.agg #[.int .i64 (ord xs : Nat), .slice a n c, .int .i64 (whole xs (ord xs) : Nat)]) ∧ Upd NoB w w' := by
  have hBw := World.block_lt_of_cell? w _ hb
  simp only at hBw
  obtain ⟨W, hW⟩ : ∃ W, W = (((w.alloc (.cells #[.func (.func 91) #[] #[]] 110)).alloc (.cells #[.int .i64 0, .slice none 0 0, .int .i64 0] 76)).alloc (.cells #[.int .i64 0, .slice none 0 0, .int .i64 0] 76)).alloc (.cells #[.bool false] 4) := ⟨_, rfl⟩
  obtain ⟨b0, b1, b2, b3, hu⟩ := boxes4' w (.cells #[.func (.func 91) #[] #[]] 110) (.cells #[.int .i64 0, .slice none 0 0, .int .i64 0] 76) (.cells #[.int .i64 0, .slice none 0 0, .int .i64 0] 76) (.cells #[.bool false] 4)
  rw [← hW] at b0 b1 b2 b3 hu
  have hsz := lt_of_block b3
  have HSq := Lib.hid (layouts1_seq B xa cap xs W hn (hx.later hu) (hu.cell hb (noB _)) (by omega))
  have hxl : xs ≠ [] → ∀ j, xa.map Addr.block = some j → j < w.heap.size := fun hne k hk => by
    refine hx.lt hne k ?_
    cases xa with
    | none => simp at hk
    | some a => simpa [Value.ownBlock] using hk
  have HXl := Lib.hid hxl
  have HDl := Lib.hid (show ∀ j, layD B xa xs j → j < w.heap.size from fun j hj => by
    rcases hj with rfl | ⟨hne, hj⟩
    · exact hBw
    · exact hxl hne j hj)
  have h0 : LInv xs w.heap.size W [] W := ⟨⟨0, 0, false, none, 0, 0, b2, b3, .inl ⟨rfl, rfl⟩⟩, Upd.refl _ _⟩
  have HW := Lib.hid hW; have B0 := Lib.hid b0; have B1 := Lib.hid b1; have HU := Lib.hid hu
  clear hW b0 b1 b2 b3 hu hx hb hn hxl
  refine (callsIn_wide (n := 2)).1 ?_
  refine callsIn_of_wp_marks Try.func89 rfl trivial (wpIn_wide.2 ?_) rfl
  simp only [Try.ntmps89, List.size_toArray, List.length_cons, List.length_nil, Nat.reduceAdd, Nat.reduceSub, Array.replicate_succ, Array.replicate_zero, List.push_toArray, List.append_toArray, List.nil_append, List.cons_append]
  go_wp2_with fail
  rw [← HW.out]
  refine (wpIn_wide (n := 2)).1 (wpIn_rangeFunc_ownH rfl (by omega) (gf := 105) (lb := #[.pointer (some ⟨B, 0, none⟩)]) rfl trivial (enters_of Try.func105 (by kernel_rfl) rfl)
    HSq.out (fun h k => h.trans k)
    (fun W' l o o' hl _ _ _ => keepD_putObj (fun hd => by
      rcases hd with rfl | ⟨hne, hd⟩
      · omega
      · have := HXl.out hne _ hd; omega)) (Below.refl _ _) (fun _ => rfl)
    (LInv xs w.heap.size W) (fun _ _ _ => False) (LInv.own hsz) (fun _ _ _ _ _ hs _ _ => hs) h0
    (fun x a' W' => ∃ Bx, W.heap.size ≤ Bx ∧ W'.heap[Bx]? = some (.cells #[.int .i64 (x.1.1 : Nat), .slice x.1.2.1 x.1.2.2.1 x.1.2.2.2, .int .i64 (whole xs x.1.1 : Nat)] 76 (0, 0)) ∧
      a' = { tmps := #[.func (.func 105) #[] #[.pointer (some ⟨B, 0, none⟩)], .func (.func 91) #[] #[], undef, .pointer (some ⟨w.heap.size, 0, none⟩), .pointer (some ⟨w.heap.size + 1, 0, none⟩), .pointer (some ⟨w.heap.size + 1 + 1, 0, none⟩), .pointer (some ⟨w.heap.size + 1 + 1 + 1, 0, none⟩), .pointer (some ⟨Bx, 0, none⟩), .func (.func 105) #[] #[.pointer (some ⟨B, 0, none⟩)], .agg #[.int .i64 (x.1.1 : Nat), .slice x.1.2.1 x.1.2.2.1 x.1.2.2.2, .int .i64 (whole xs x.1.1 : Nat)], undef, undef, undef, undef, undef, undef, undef, undef, undef, undef, undef, undef, undef], defers := [] })
    (fun x a' s A B row hs hg hr => by
      obtain ⟨Bx, h1, h2, h3⟩ := hs
      refine ⟨Bx, h1, (hg.block _ (lt_of_block h2) (fun e => ?_)).trans h2, h3⟩
      obtain ⟨_, o, ho, hc⟩ := hr _ e.symm
      rw [h2] at ho
      cases ho
      cases hc) ?assign ?body ?done ?stop)
  case assign =>
    intro l pre x W' K' hi hK'
    have hsz2 := hi.2.size
    have Hi := Lib.hid hi
    clear hi
    simp only [encL] at hK' ⊢
    obtain ⟨⟨p, a, n, c⟩, hp⟩ := x
    simp only at *
    generalize whole xs p = k at *
    gi_wp2
    refine hK' _ _ ((KeepsOthers.alloc _ _).from _) (keepD_alloc _ (fun j hj => ?_)) ((LInv.own hsz).alloc _ Hi.out) ⟨W'.heap.size, hsz2, heap_alloc_new W' _, rfl⟩
    rcases hj with rfl | ⟨hne, hj⟩
    · omega
    · have := HXl.out hne _ hj; omega
  case body =>
    rintro l pre x a' W' _ _ ⟨⟨p, k, fd, a, n, c, h1, h2, hok⟩, h4⟩ ⟨Bx, hx1, hx2, rfl⟩ hN
    obtain ⟨⟨q, qa, qn, qc⟩, hq⟩ := x
    simp only at *
    have hb0 := h4.heap B0.out (by omega)
    have c0 : W'.cell? ⟨w.heap.size, 0, none⟩ = some (.func (.func 91) #[] #[]) := blk_cell hb0 0
    obtain ⟨d0, d1, d2⟩ := cells3 h1
    obtain ⟨x0, x1, x2⟩ := cells3 hx2
    have e0 : W'.cell? ⟨w.heap.size + 1 + 1 + 1, 0, none⟩ = some (.bool fd) := blk_cell h2 0
    have f0 := blk_free h1 0
    have f1 := blk_free h1 1
    have f2 := blk_free h1 2
    have g0 := blk_free h2 0
    have hsW := h4.size
    have hBx := lt_of_block hx2
    have H1 := Lib.hid h1; have H2 := Lib.hid h2; have H4 := Lib.hid h4; have HX2 := Lib.hid hx2
    clear h1 h2 h4 hx2 hb0
    cases fd with
    | false =>
      have Next := Lib.hid (hok.first ⟨(q, qa, qn, qc), hq⟩)
      simp only at Next
      generalize whole xs q = z at *
      clear hok
      gi_wp2
      refine region_still_in 10 (by kernel_rfl) (by kernel_rfl) (by kernel_rfl) (fun ⟨_, _, h⟩ => h) ?_
      simp only [List.take_succ_cons, List.take_zero, List.drop_succ_cons, List.drop_zero]
      repeat still_step
      refine wpStill_nil ?_
      change wpList _ _ _ _ _ (World.drew W')
      go_wp2_with fail
      gi_wp2
      exact lend H4.out (((((((Upd.refl (fun k => k = w.heap.size + 2 ∨ k = w.heap.size + 3) W').setCell (p := ⟨w.heap.size + 2, 0, none⟩) _ (fun _ => .inl rfl)).setCell (p := ⟨w.heap.size + 2, 1, none⟩) _ (fun _ => .inl rfl)).setCell (p := ⟨w.heap.size + 2, 2, none⟩) _ (fun _ => .inl rfl)).setCell (p := ⟨w.heap.size + 3, 0, none⟩) _ (fun _ => .inr rfl)).drew))
        (block_keep (block_set (block_set (block_set H1.out _) _) _) (by simp only; omega) _) (block_set (block_keep (block_keep (block_keep H2.out (by simp only; omega) _) (by simp only; omega) _) (by simp only; omega) _) _) Next.out hsz HDl.out
    | true =>
      have hmix : Try.prog.follows .mixedOrders = true := by kernel_rfl
      have KS := Lib.hid (show ∀ Z : World, Upd NoB W' Z → Z.cell? ⟨w.heap.size, 0, none⟩ = some (.func (.func 91) #[] #[]) ∧ Z.cell? ⟨w.heap.size + 1 + 1, 0, none⟩ = some (.int .i64 (p : Nat)) ∧ Z.cell? ⟨w.heap.size + 1 + 1, 1, none⟩ = some (.slice a n c) ∧ Z.cell? ⟨w.heap.size + 1 + 1, 2, none⟩ = some (.int .i64 (k : Nat)) ∧ Z.cell? ⟨Bx, 0, none⟩ = some (.int .i64 (q : Nat)) ∧ Z.cell? ⟨Bx, 1, none⟩ = some (.slice qa qn qc) ∧ Z.cell? ⟨Bx, 2, none⟩ = some (.int .i64 (whole xs q : Nat)) ∧ Z.cell? ⟨w.heap.size + 1 + 1 + 1, 0, none⟩ = some (.bool true) from
        fun Z u => ⟨u.cell c0 (noB _), u.cell d0 (noB _), u.cell d1 (noB _), u.cell d2 (noB _), u.cell x0 (noB _), u.cell x1 (noB _), u.cell x2 (noB _), u.cell e0 (noB _)⟩)
      have HLx := Lib.hid (fun w' => lay1_any (q : Int) (whole xs q : Nat) qa qn qc w')
      have HLb := Lib.hid (fun w' => lay1_any (p : Int) (k : Nat) a n c w')
      by_cases hc : whole xs q < k
      · have Next := Lib.hid (hok.less ⟨(q, qa, qn, qc), hq⟩ hc)
        try simp only at Next
        generalize whole xs q = z at *
        have t1 : decide ((z : Int) < (k : Int)) = true := decide_eq_true (by omega)
        have t2 : decide (z < k) = true := decide_eq_true hc
        clear hok hc
        gi_wp2
        refine region_quiet_in (Aft W') hmix (by kernel_rfl) (by kernel_rfl) (fun ⟨_, _, h⟩ => h) (show Upd NoB W' W'.drew from (Upd.refl NoB W').drew) ?_
        refine wpQuiet_step (fun K hK => ?_)
        go_simp
        refine ⟨.bool true, fun Z hZ => ?_, hK _ ?_⟩
        · obtain ⟨k0, k1, k2, k3, k4, k5, k6, k7⟩ := KS.out Z hZ
          go_simp
        clear hK K
        refine wpQuiet_step (fun K hK => ?_)
        go_simp
        refine ⟨_, fun _ _ => rfl, hK _ ?_⟩
        clear hK K
        refine wpQuiet_step (fun K hK => ?_)
        go_simp
        refine ⟨_, fun _ _ => rfl, hK _ ?_⟩
        clear hK K
        refine wpQuiet_step (fun K hK => ?_)
        go_simp
        refine ⟨.func (.func 91) #[] #[], fun Z hZ => ?_, hK _ ?_⟩
        · obtain ⟨k0, k1, k2, k3, k4, k5, k6, k7⟩ := KS.out Z hZ
          go_simp
        clear hK K
        refine wpQuiet_step (fun K hK => ?_)
        go_simp
        refine ⟨.agg #[.int .i64 (q : Nat), .slice qa qn qc, .int .i64 (z : Nat)], fun Z hZ => ?_, hK _ ?_⟩
        · obtain ⟨k0, k1, k2, k3, k4, k5, k6, k7⟩ := KS.out Z hZ
          go_simp
        clear hK K
        refine wpQuiet_step (fun K hK => ?_)
        go_simp
        refine ⟨.int .i64 (z : Nat), fun Z hZ => ?_, hK _ ?_⟩
        · exact (HLx.out Z).mono fun _ _ h => ⟨h.1, Upd.then hZ h.2⟩
        clear hK K
        refine wpQuiet_step (fun K hK => ?_)
        go_simp
        refine ⟨.func (.func 91) #[] #[], fun Z hZ => ?_, hK _ ?_⟩
        · obtain ⟨k0, k1, k2, k3, k4, k5, k6, k7⟩ := KS.out Z hZ
          go_simp
        clear hK K
        refine wpQuiet_step (fun K hK => ?_)
        go_simp
        refine ⟨.agg #[.int .i64 (p : Nat), .slice a n c, .int .i64 (k : Nat)], fun Z hZ => ?_, hK _ ?_⟩
        · obtain ⟨k0, k1, k2, k3, k4, k5, k6, k7⟩ := KS.out Z hZ
          go_simp
        clear hK K
        refine wpQuiet_step (fun K hK => ?_)
        go_simp
        refine ⟨.int .i64 (k : Nat), fun Z hZ => ?_, hK _ ?_⟩
        · exact (HLb.out Z).mono fun _ _ h => ⟨h.1, Upd.then hZ h.2⟩
        clear hK K
        refine wpQuiet_step (fun K hK => ?_)
        go_simp
        refine ⟨_, fun _ _ => rfl, hK _ ?_⟩
        clear hK K
        refine wpQuiet_step (fun K hK => ?_)
        go_simp
        refine ⟨_, fun _ _ => rfl, hK _ ?_⟩
        clear hK K
        refine wpQuiet_nil ?_
        intro Z hZ
        have hz1 := Upd.heap (show Upd NoB W' Z from hZ) H1.out (noB _)
        have hz2 := Upd.heap (show Upd NoB W' Z from hZ) H2.out (noB _)
        have HZ1 := Lib.hid hz1; have HZ2 := Lib.hid hz2
        have uz : Upd (fun k => k = w.heap.size + 2 ∨ k = w.heap.size + 3) W' Z := Upd.mono (show Upd NoB W' Z from hZ) (fun _ _ h => h.elim)
        have UZ := Lib.hid uz
        obtain ⟨k0, k1, k2, k3, k4, k5, k6, k7⟩ := KS.out Z hZ
        have g0' := blk_free hz1 0
        have g1' := blk_free hz1 1
        have g2' := blk_free hz1 2
        have g3' := blk_free hz2 0
        clear hz1 hz2 uz
        gi_wp2
        exact lend H4.out ((((UZ.out.setCell (p := ⟨w.heap.size + 2, 0, none⟩) _ (fun _ => .inl rfl)).setCell (p := ⟨w.heap.size + 2, 1, none⟩) _ (fun _ => .inl rfl)).setCell (p := ⟨w.heap.size + 2, 2, none⟩) _ (fun _ => .inl rfl)).setCell (p := ⟨w.heap.size + 3, 0, none⟩) _ (fun _ => .inr rfl))
          (block_keep (block_set (block_set (block_set HZ1.out _) _) _) (by simp only; omega) _) (block_set (block_keep (block_keep (block_keep HZ2.out (by simp only; omega) _) (by simp only; omega) _) (by simp only; omega) _) _) Next.out hsz HDl.out
      · have Next := Lib.hid (hok.more ⟨(q, qa, qn, qc), hq⟩ hc)
        try simp only at Next
        generalize whole xs q = z at *
        have t1 : decide ((z : Int) < (k : Int)) = false := decide_eq_false (by omega)
        have t2 : decide (z < k) = false := decide_eq_false hc
        clear hok hc
        gi_wp2
        refine region_quiet_in (Aft W') hmix (by kernel_rfl) (by kernel_rfl) (fun ⟨_, _, h⟩ => h) (show Upd NoB W' W'.drew from (Upd.refl NoB W').drew) ?_
        refine wpQuiet_step (fun K hK => ?_)
        go_simp
        refine ⟨.bool true, fun Z hZ => ?_, hK _ ?_⟩
        · obtain ⟨k0, k1, k2, k3, k4, k5, k6, k7⟩ := KS.out Z hZ
          go_simp
        clear hK K
        refine wpQuiet_step (fun K hK => ?_)
        go_simp
        refine ⟨_, fun _ _ => rfl, hK _ ?_⟩
        clear hK K
        refine wpQuiet_step (fun K hK => ?_)
        go_simp
        refine ⟨_, fun _ _ => rfl, hK _ ?_⟩
        clear hK K
        refine wpQuiet_step (fun K hK => ?_)
        go_simp
        refine ⟨.func (.func 91) #[] #[], fun Z hZ => ?_, hK _ ?_⟩
        · obtain ⟨k0, k1, k2, k3, k4, k5, k6, k7⟩ := KS.out Z hZ
          go_simp
        clear hK K
        refine wpQuiet_step (fun K hK => ?_)
        go_simp
        refine ⟨.agg #[.int .i64 (q : Nat), .slice qa qn qc, .int .i64 (z : Nat)], fun Z hZ => ?_, hK _ ?_⟩
        · obtain ⟨k0, k1, k2, k3, k4, k5, k6, k7⟩ := KS.out Z hZ
          go_simp
        clear hK K
        refine wpQuiet_step (fun K hK => ?_)
        go_simp
        refine ⟨.int .i64 (z : Nat), fun Z hZ => ?_, hK _ ?_⟩
        · exact (HLx.out Z).mono fun _ _ h => ⟨h.1, Upd.then hZ h.2⟩
        clear hK K
        refine wpQuiet_step (fun K hK => ?_)
        go_simp
        refine ⟨.func (.func 91) #[] #[], fun Z hZ => ?_, hK _ ?_⟩
        · obtain ⟨k0, k1, k2, k3, k4, k5, k6, k7⟩ := KS.out Z hZ
          go_simp
        clear hK K
        refine wpQuiet_step (fun K hK => ?_)
        go_simp
        refine ⟨.agg #[.int .i64 (p : Nat), .slice a n c, .int .i64 (k : Nat)], fun Z hZ => ?_, hK _ ?_⟩
        · obtain ⟨k0, k1, k2, k3, k4, k5, k6, k7⟩ := KS.out Z hZ
          go_simp
        clear hK K
        refine wpQuiet_step (fun K hK => ?_)
        go_simp
        refine ⟨.int .i64 (k : Nat), fun Z hZ => ?_, hK _ ?_⟩
        · exact (HLb.out Z).mono fun _ _ h => ⟨h.1, Upd.then hZ h.2⟩
        clear hK K
        refine wpQuiet_step (fun K hK => ?_)
        go_simp
        refine ⟨_, fun _ _ => rfl, hK _ ?_⟩
        clear hK K
        refine wpQuiet_step (fun K hK => ?_)
        go_simp
        refine ⟨_, fun _ _ => rfl, hK _ ?_⟩
        clear hK K
        refine wpQuiet_nil ?_
        intro Z hZ
        have hz1 := Upd.heap (show Upd NoB W' Z from hZ) H1.out (noB _)
        have hz2 := Upd.heap (show Upd NoB W' Z from hZ) H2.out (noB _)
        have HZ1 := Lib.hid hz1; have HZ2 := Lib.hid hz2
        have uz : Upd (fun k => k = w.heap.size + 2 ∨ k = w.heap.size + 3) W' Z := Upd.mono (show Upd NoB W' Z from hZ) (fun _ _ h => h.elim)
        have UZ := Lib.hid uz
        obtain ⟨k0, k1, k2, k3, k4, k5, k6, k7⟩ := KS.out Z hZ
        have g0' := blk_free hz1 0
        have g1' := blk_free hz1 1
        have g2' := blk_free hz1 2
        have g3' := blk_free hz2 0
        clear hz1 hz2 uz
        gi_wp2
        exact lend H4.out UZ.out HZ1.out HZ2.out Next.out hsz HDl.out
  case done =>
    rintro D ys W' hD' hS ⟨⟨p, k, fd, a, n, c, h1, h2, hok⟩, h4⟩ hK
    have hor : p = ord xs ∧ k = whole xs (ord xs) := by
      have ho := amL_ords xs
      rw [← hS] at ho
      rcases hok with ⟨_, rfl⟩ | ⟨_, hb, rfl⟩
      · cases ho
      · rw [hb] at ho
        cases ho
        exact ⟨rfl, rfl⟩
    obtain ⟨rfl, rfl⟩ := hor
    have hbk := h4.heap B1.out (by omega)
    obtain ⟨d0, d1, d2⟩ := cells3 h1
    obtain ⟨x0, x1, x2⟩ := cells3 hbk
    have f0 := blk_free hbk 0
    have f1 := blk_free hbk 1
    have f2 := blk_free hbk 2
    have HK := Lib.hid hK; have Hbk := Lib.hid hbk; have H4 := Lib.hid h4
    clear h1 h2 hok h4 hK hS hbk h0
    obtain ⟨z, hz⟩ : ∃ z, whole xs (ord xs) = z := ⟨_, rfl⟩
    obtain ⟨o, ho⟩ : ∃ o, ord xs = o := ⟨_, rfl⟩
    rw [hz] at d2
    rw [ho] at d0
    have HZ := Lib.hid hz; have HO := Lib.hid ho
    clear hz ho
    go_wp2
    refine ⟨by simp, .inl ⟨_, _, rfl, run_takeDeferred (heap_later' (heap_later' (heap_later' HK.out (by omega)) (by omega)) (by omega)), ?_⟩⟩
    have hheap : ((((W'.setCell ⟨w.heap.size + 1, 0, none⟩ (.int .i64 (o : Nat))).setCell ⟨w.heap.size + 1, 1, none⟩ (.slice a n c)).setCell ⟨w.heap.size + 1, 2, none⟩ (.int .i64 (z : Nat))).putObj D (.deferred none)).heap[w.heap.size + 1]? = some (.cells #[.int .i64 (o : Nat), .slice a n c, .int .i64 (z : Nat)] 76 (0, 0)) :=
      (World.putObj_heap_other (by omega)).trans (block_set (block_set (block_set Hbk.out _) _) _)
    refine ⟨_, results_cell_row rfl _ _ (w.heap.size + 1) 76 _ (0, 0) _ rfl hheap Try.underlying76 rfl (by kernel_rfl), a, n, c, by rw [HZ.out, HO.out], ?_⟩
    have hs := HU.out.size
    have hall : Upd (fun k => w.heap.size ≤ k) w ((((W'.setCell ⟨w.heap.size + 1, 0, none⟩ (.int .i64 (o : Nat))).setCell ⟨w.heap.size + 1, 1, none⟩ (.slice a n c)).setCell ⟨w.heap.size + 1, 2, none⟩ (.int .i64 (z : Nat))).putObj D (.deferred none)) :=
      (((((HU.out.mono (T := fun k => w.heap.size ≤ k) (fun _ _ h => h.elim)).trans H4.out (fun k _ h => by omega)).setCell (p := ⟨w.heap.size + 1, 0, none⟩) _ (fun _ => by simp only; omega)).setCell (p := ⟨w.heap.size + 1, 1, none⟩) _ (fun _ => by simp only; omega)).setCell (p := ⟨w.heap.size + 1, 2, none⟩) _ (fun _ => by simp only; omega)).grown (grownBy_putObj' _ _ _) (fun k e hlt => by cases e; omega)
    exact hall.mono (fun k hk h => by omega)
  case stop =>
    rintro D c pre W' _ _ h _
    exact h.elim
end Go.Proofs.Ytmdladcfckoglaa
