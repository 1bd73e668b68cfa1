/- rice: layoutWith -/
import Derived.Test.YtmdladcfckoglaaKL
namespace Go.Proofs.Ytmdladcfckoglaa
open Go.RowKit Go.Shelf
attribute [local go_sem] Oper.semAt_some

theorem wpListIn_load_row' {l n : Nat} {P : Program} {ops : Array Oper} {rest : List Oper} {o : Oper} {a : Act} {w : World} {Q : Exit → Act → World → Prop} (hgd : o.guard = none) (ty : TypeId) (x : Operand) (ho : o.op = .load ty x)
    (g : Nat) (hx : a.eval x = .pointer (some ⟨g, 0, none⟩)) (t : TypeId) (cs : Array Value) (fr : Nat × Nat) (d : TypeDesc) (hg : w.heap[g]? = some (.cells cs t fr))
    (hu : P.underlying ty = some d) (hd : (match d with | .struct _ | .array _ _ => true | _ => false) = true) (hi : (P.info? ty).map (·.size) = some cs.size)
    (h : wpListIn (Fence.wide.inRound l) n P ops Q rest (a.put o.dst (.agg cs)) w) : wpListIn (Fence.wide.inRound l) n P ops Q (o :: rest) a w :=
  wpListIn_plain hgd fun _ hK => op_in (by rw [ho]; intro c hc; cases hc) (fun _ _ h => h) (wp_load_row ty x ho g hx t cs fr d hg hu hd hi (hK _ _ h))
theorem wpListIn_store_row' {l n : Nat} {P : Program} {ops : Array Oper} {rest : List Oper} {o : Oper} {a : Act} {w : World} {Q : Exit → Act → World → Prop} (hgd : o.guard = none) (ty : TypeId) (x y : Operand) (ho : o.op = .store ty x y)
    (g : Nat) (cells : Array Value) (hx : a.eval x = .pointer (some ⟨g, 0, none⟩)) (hy : a.eval y = .agg cells)
    (t : TypeId) (old : Array Value) (hg : w.heap[g]? = some (.cells old t (0, 0))) (hi : (P.info? ty).map (·.size) = some cells.size)
    (hold : old.size = cells.size) (h1 : cells.all (·.oneCell') = true)
    (h : wpListIn (Fence.wide.inRound l) n P ops Q rest (a.put o.dst undef) (w.setRow g cells)) : wpListIn (Fence.wide.inRound l) n P ops Q (o :: rest) a w :=
  wpListIn_plain hgd fun _ hK => op_in (by rw [ho]; intro c hc; cases hc) (fun _ _ h => h) (wp_store_row ty x y ho g cells hx hy t old hg hi hold h1 (hK _ _ h))
theorem row_grown {w w' : World} {base : Nat} {e : TypeId} {size : Nat} {v : Value} {n : Nat} {xs : List Value} {row : Option Nat} (h : w.ownsRow base e size v n xs) (hg : w.grownBy w' row)
    (hr : ∀ r, row = some r → ∃ o : Obj, w.heap[r]? = some o ∧ o.isCells = false) : w'.ownsRow base e size v n xs := by
  refine ⟨h.1, ?_⟩
  rcases h.2 with h' | ⟨g, cap, cur, hv, hb, hgg, rest⟩
  · exact .inl h'
  · refine .inr ⟨g, cap, cur, hv, hb, ?_, rest⟩
    refine (hg.block g (lt_of_block hgg) (fun e => ?_)).trans hgg
    obtain ⟨o, ho, hc⟩ := hr g e.symm
    rw [hgg] at ho
    cases ho
    cases hc
theorem boxes4' (W : World) (o0 o1 o2 o3 : Obj) : ((((W.alloc o0).alloc o1).alloc o2).alloc o3).heap[W.heap.size]? = some o0 ∧ ((((W.alloc o0).alloc o1).alloc o2).alloc o3).heap[W.heap.size + 1]? = some o1 ∧
    ((((W.alloc o0).alloc o1).alloc o2).alloc o3).heap[W.heap.size + 2]? = some o2 ∧ ((((W.alloc o0).alloc o1).alloc o2).alloc o3).heap[W.heap.size + 3]? = some o3 ∧ Upd NoB W ((((W.alloc o0).alloc o1).alloc o2).alloc o3) := by
  have s1 : (W.alloc o0).heap.size = W.heap.size + 1 := by simp
  have s2 : ((W.alloc o0).alloc o1).heap.size = W.heap.size + 2 := by simp
  have s3 : (((W.alloc o0).alloc o1).alloc o2).heap.size = W.heap.size + 3 := by simp
  have h1 := heap_alloc_new (W.alloc o0) o1
  have h2 := heap_alloc_new ((W.alloc o0).alloc o1) o2
  have h3 := heap_alloc_new (((W.alloc o0).alloc o1).alloc o2) o3
  rw [s1] at h1
  rw [s2] at h2
  rw [s3] at h3
  have e1 : ∀ k, k < W.heap.size + 3 → ((((W.alloc o0).alloc o1).alloc o2).alloc o3).heap[k]? = (((W.alloc o0).alloc o1).alloc o2).heap[k]? := fun k hk => Below.heap_alloc _ _ _ (by omega)
  have e2 : ∀ k, k < W.heap.size + 2 → (((W.alloc o0).alloc o1).alloc o2).heap[k]? = ((W.alloc o0).alloc o1).heap[k]? := fun k hk => Below.heap_alloc _ _ _ (by omega)
  have e3 : ∀ k, k < W.heap.size + 1 → ((W.alloc o0).alloc o1).heap[k]? = (W.alloc o0).heap[k]? := fun k hk => Below.heap_alloc _ _ _ (by omega)
  exact ⟨(e1 _ (by omega)).trans ((e2 _ (by omega)).trans ((e3 _ (by omega)).trans (heap_alloc_new W _))), (e1 _ (by omega)).trans ((e2 _ (by omega)).trans h1), (e1 _ (by omega)).trans h2, h3, ((((Upd.refl _ _).alloc _).alloc _).alloc _).alloc _⟩
theorem heap_later' {W : World} {D : Nat} {o : Obj} (h : W.heap[D]? = some o) {b i : Nat} {u : Value} (hb : b ≠ D) : (W.setCell ⟨b, i, none⟩ u).heap[D]? = some o :=
  (Below.heap_setCell _ _ _ _ (fun e => hb e.symm)).trans h
/-- the parameters of the parts -/
def parS (xs : List Int) (N M : Nat) : List Int := (List.range M).map fun i => (bst (partOf xs N i) : Int)
theorem parS_len (xs : List Int) (N M : Nat) : (parS xs N M).length = M := by simp [parS]
theorem parS_snoc (xs : List Int) (N M : Nat) : parS xs N (M + 1) = parS xs N M ++ [(bst (partOf xs N M) : Int)] := by simp [parS, List.range_succ]
theorem NumL.part {xs : List Int} (h : NumL xs) (N i : Nat) : NumL (partOf xs N i) := ⟨Nat.le_trans (partOf_le' xs N i) h.1, fun v hv => h.2 v (List.mem_of_mem_drop (List.mem_of_mem_take hv))⟩
theorem ordM {M : Nat} {pre : List (Ix M)} {x : Ix M} (h : (pre ++ [x]).map Subtype.val = List.range (pre ++ [x]).length) : pre.map Subtype.val = List.range pre.length ∧ x.1 = pre.length := by
  rw [List.map_append, List.length_append, List.length_cons, List.length_nil, Nat.zero_add, List.range_succ] at h
  have := List.append_inj h (by simp)
  refine ⟨this.1, ?_⟩
  have h2 := this.2
  simpa using h2
/-- what has been collected after some parts -/
def LOk (xs : List Int) (N M : Nat) (pre : List (Ix M)) (ps : List Int) (c : Nat) : Prop := ps.length = pre.length ∧ c ≤ 2 + pre.length * 466948 ∧ (pre.map Subtype.val = List.range pre.length → ps = parS xs N pre.length ∧ c = wholeTo xs N pre.length)
theorem LOk.next {xs : List Int} {N M : Nat} {pre : List (Ix M)} {ps : List Int} {c : Nat} (h : LOk xs N M pre ps c) (hn : NumL xs) (x : Ix M) :
    LOk xs N M (pre ++ [x]) (ps ++ [(bst (partOf xs N x.1) : Int)]) (c + (4 + lc (partOf xs N x.1) (bst (partOf xs N x.1)))) := by
  obtain ⟨h1, h2, h3⟩ := h
  have hb := lc_all_le (hn.part N x.1) (bst_le (partOf xs N x.1))
  refine ⟨by simp [h1], ?_, fun ho => ?_⟩
  · rw [List.length_append, show pre.length + [x].length = pre.length + 1 from rfl, Nat.add_mul]; omega
  · obtain ⟨g1, g2⟩ := ordM ho
    obtain ⟨e1, e2⟩ := h3 g1
    rw [List.length_append, show pre.length + [x].length = pre.length + 1 from rfl, parS_snoc, wholeTo, ← e1, ← e2, g2]
    exact ⟨rfl, rfl⟩
set_option maxRecDepth 100000 in
set_option maxHeartbeats 4000000 in
theorem layoutWith_any (xv : Value) (xs : List Int) (p : Nat) (w : World) (h : Ints w xv xs) (hn : NumL xs) (hp : p ≤ 3) :
    Calls Try.prog 106 #[xv, .int .i64 (p : Int)] w fun e w' => ∃ v, e = .returned (.agg #[.int .i64 (p : Int), v, .int .i64 (whole xs p : Nat)]) ∧ w'.ownsRow w.heap.size 3 1 v (2 ^ p) (i64s (parS xs (xs.length / 2 ^ p) (2 ^ p))) ∧ Upd NoB w w' := by
  obtain ⟨xa, cap, rfl⟩ := h.form
  have hcap : xs.length ≤ cap := by obtain ⟨_, _, _, e, ⟨hc, _⟩, _⟩ := h; cases e; exact hc
  have hl := hn.1
  obtain ⟨M, hM⟩ : ∃ M, 2 ^ p = M := ⟨_, rfl⟩
  obtain ⟨N, hN⟩ : ∃ N, xs.length / 2 ^ p = N := ⟨_, rfl⟩
  have hM8 : M ≤ 8 := by rw [← hM]; exact Nat.pow_le_pow_right (n := 2) (by decide) hp
  have hM1 : 0 < M := by rw [← hM]; exact Nat.two_pow_pos p
  have h2 : (2 : Int) ^ p = (M : Int) := by rw [← hM]; simp
  have h1 : (xs.length : Int) / 2 ^ p = (N : Int) := by rw [← hN]; simp
  have hML : M * N ≤ xs.length := by rw [← hN, ← hM]; exact Nat.mul_div_le _ _
  have HW0 := Lib.hid (show whole xs p = wholeTo xs N M by unfold whole; rw [hN, hM])
  rw [hN, hM]
  obtain ⟨W, hW⟩ : ∃ W, W = (((w.alloc (.cells #[.int .i64 0, .slice none 0 0, .int .i64 0] 76)).alloc (.cells #[.int .i64 (p : Int), .slice none 0 0, .int .i64 2] 76)).alloc (.cells #[.slice xa xs.length cap] 27)).alloc (.cells #[.int .i64 (p : Int)] 3) := ⟨_, rfl⟩
  obtain ⟨b0, b1, b2, b3, hu⟩ := boxes4' w (.cells #[.int .i64 0, .slice none 0 0, .int .i64 0] 76) (.cells #[.int .i64 (p : Int), .slice none 0 0, .int .i64 2] 76) (.cells #[.slice xa xs.length cap] 27) (.cells #[.int .i64 (p : Int)] 3)
  rw [← hW] at b0 b1 b2 b3 hu
  have hsz := lt_of_block b3
  have h0lt : xs ≠ [] → ∀ k, (Value.slice xa xs.length cap).ownBlock = some k → k < w.heap.size := fun hne => h.lt hne
  have HX := Lib.hid (h.later hu)
  have Hsub := Lib.hid (fun (w' : World) (i : Nat) (hi : i < M) (hx : Ints w' (.slice xa xs.length cap) xs) => subV_ints (N := N) hx hi hML)
  have hseq := parts1_seq (w.heap.size + 2) xa xs.length cap N M p W hl hM8 hML hcap h1 h2 hp (blk_cell b2 0) (blk_cell b3 0) hsz
  have HSq := Lib.hid hseq
  obtain ⟨L, hL⟩ : ∃ L, xs.length = L := ⟨_, rfl⟩
  rw [hL] at hcap hl b2 HX Hsub h0lt hW ⊢
  have HL := Lib.hid hL; have HW := Lib.hid hW; have HN := Lib.hid hn
  clear h hn hM hN h1 h2 hML hW hseq hL
  refine (callsIn_wide (n := 2)).1 ?_
  refine callsIn_of_wp_marks Try.func106 rfl trivial (wpIn_wide.2 ?_) rfl
  simp only [Try.ntmps106, List.size_toArray, List.length_cons, List.length_nil, Nat.reduceAdd, Nat.reduceSub, Array.replicate_succ, Array.replicate_zero, List.push_toArray, List.append_toArray, List.nil_append, List.cons_append]
  go_wp2_with fail
  refine (parts_any xa L cap p _).mono ?_
  rintro e w2 ⟨rfl, rfl⟩
  go_wp2_with fail
  rw [← HW.out]
  have B0 := Lib.hid b0; have B1 := Lib.hid b1; have B2 := Lib.hid b2; have B3 := Lib.hid b3; have HU := Lib.hid hu
  obtain ⟨i0, hi, hz0, hz1, hz2⟩ := info_parts Try.infoIntK
  clear b0 b2 b3 hu
  refine (wpIn_wide (n := 2)).1 (wpIn_rangeFunc_ownG rfl (by omega) (gf := 101) (lb := #[.pointer (some ⟨w.heap.size + 2, 0, none⟩), .pointer (some ⟨w.heap.size + 2 + 1, 0, none⟩)]) rfl trivial (enters_of Try.func101 (by kernel_rfl) rfl)
    HSq.out (fun h k => h.trans k)
    (fun W' l o o' hl _ _ _ => keepD_putObj (fun hd => by rcases hd with rfl | rfl <;> omega)) (Below.refl _ _) (fun _ => rfl)
    (fun pre W' => (∃ (v : Value) (ps : List Int) (c : Nat), W'.heap[w.heap.size + 1]? = some (.cells #[.int .i64 (p : Int), v, .int .i64 (c : Nat)] 76 (0, 0)) ∧ W'.ownsRow W.heap.size 3 1 v ps.length (i64s ps) ∧ LOk xs N M pre ps c) ∧ Upd (fun k => k = w.heap.size + 1) W W')
    (fun _ _ _ => False) ?hI (fun _ _ _ _ _ hs _ _ => hs) ⟨⟨_, [], 2, b1, World.ownsRow_nil _ _ _ _, rfl, by simp, fun _ => ⟨rfl, rfl⟩⟩, Upd.refl _ _⟩
    (fun x => { tmps := #[.slice xa L cap, .int .i64 (p : Int), undef, undef, .pointer (some ⟨w.heap.size, 0, none⟩), .pointer (some ⟨w.heap.size + 1, 0, none⟩), undef, subV xa cap N x.1, undef, undef, .int .i64 (p : Int), .agg #[.int .i64 (p : Int), .slice none 0 0, .int .i64 2], .slice xa L cap, .int .i64 (p : Int), .func (.func 101) #[] #[.pointer (some ⟨w.heap.size + 1 + 1, 0, none⟩), .pointer (some ⟨w.heap.size + 1 + 1 + 1, 0, none⟩)], .int .i64 (x.1 : Nat), subV xa cap N x.1, undef, undef, undef, undef, undef, undef, undef, undef, undef, undef, undef, undef, undef, undef, undef, undef, undef, undef, undef], defers := [] }) ?assign ?body ?done ?stop)
  case hI =>
    rintro s A B' row ⟨⟨v, ps, c, h1, h2, h3⟩, h4⟩ hg hr
    refine ⟨⟨v, ps, c, (hg.block _ (lt_of_block h1) (fun e => ?_)).trans h1, row_grown h2 hg (fun r e => (hr r e).2), h3⟩, h4.grown hg (fun k e hk => ?_)⟩
    · have := (hr _ e.symm).1; omega
    · have := (hr k e).1; omega
  case assign =>
    intro l x W' K hK
    gi_wp2
    exact hK
  case body =>
    rintro l pre x W' ⟨⟨v, ps, c, hm, hr, hok⟩, hu'⟩ hNl
    obtain ⟨x, hx⟩ := x
    have hsubI := Hsub.out W' x hx (HX.out.upd hu' (fun hne k hk e => by
      have := (h0lt hne k hk); omega))
    have hPn := HN.out.part N x
    have HCo := Lib.hid (costsOf_any (subV xa cap N x) (partOf xs N x) W' hsubI hPn)
    have Next := Lib.hid (hok.next HN.out ⟨x, hx⟩)
    have hcb := hok.2.1
    have hpsl : ps.length ≤ 8 := by have := hok.1; omega
    have hbst := bst_le (partOf xs N x)
    have h466 := lc_all_le hPn hbst
    have HBe := Lib.hid (show ∀ w', Calls Try.prog 58 #[.agg (arrC (lc (partOf xs N x))).toArray] w' (fun e w'' => e = .returned (.int .i64 (bst (partOf xs N x) : Nat)) ∧ Upd NoB w' w'') from fun w' => cbest_any (lc (partOf xs N x)) w' (fun k hk => lc_all_le hPn hk))
    have hsz15 : (arrC (lc (partOf xs N x))).toArray.size = 15 := by simp [arrC_len]
    have HSz := Lib.hid hsz15
    have HOne := Lib.hid (arrC_one (lc (partOf xs N x)))
    obtain ⟨A, hA⟩ : ∃ A, (arrC (lc (partOf xs N x))).toArray = A := ⟨_, rfl⟩
    have HA := Lib.hid hA
    rw [hA] at HCo HBe HSz HOne
    have HG := Lib.hid (fun (w' : World) (B : Nat) (hb : w'.heap[B]? = some (.cells A 70 (0, 0))) => (show CAt w' B (lc (partOf xs N x)) by unfold CAt; rw [HA.out]; exact hb).cell (show bst (partOf xs N x) < 15 by omega))
    simp only at Next
    generalize lc (partOf xs N x) (bst (partOf xs N x)) = z at *
    generalize bst (partOf xs N x) = m at *
    generalize subV xa cap N x = sv at *
    have hpl : pre.length ≤ 8 := by omega
    have Hm := Lib.hid hm; have Hr := Lib.hid hr; have Hu := Lib.hid hu'
    clear hsubI hPn hok hsz15 hA hm hr hu' h0lt b1
    gi_wp2
    refine ⟨trivial, rfl, ?_⟩
    (with_reducible refine ((callsIn_wide.2 HCo.out).inRound l).mono ?_)
    rintro e w2 ⟨rfl, u2⟩
    have U2 := Lib.hid u2
    obtain ⟨W3, hW3⟩ : ∃ W3, W3 = (w2.alloc (.cells #[.int .i64 0, .int .i64 0, .int .i64 0, .int .i64 0, .int .i64 0, .int .i64 0, .int .i64 0, .int .i64 0, .int .i64 0, .int .i64 0, .int .i64 0, .int .i64 0, .int .i64 0, .int .i64 0, .int .i64 0] 70)).setRow w2.heap.size A := ⟨_, rfl⟩
    have c3 : W3.heap[w2.heap.size]? = some (.cells A 70 (0, 0)) := by rw [hW3]; exact setRow_heap _ _ _ _ _ _ (heap_alloc_new w2 _)
    have u3 : Upd NoB w2 W3 := by rw [hW3]; exact Upd.mono (S := fun k => w2.heap.size ≤ k) ((((Upd.refl _ w2).alloc _).setRow _ (fun _ => Nat.le_refl _))) (fun k hk h => by omega)
    have C3 := Lib.hid c3; have U3 := Lib.hid (U2.out.then u3); have HW3 := Lib.hid hW3
    clear c3 u3 hW3 u2
    gi_wp2_with (first | (refine wpListIn_store_row' rfl 70 (.tmp 8) (.tmp 18) rfl w2.heap.size A rfl rfl 70 _ (heap_alloc_new w2 _) (by rw [HSz.out]; kernel_rfl) (by rw [HSz.out]; rfl) HOne.out ?_; rw [← HW3.out]) | (refine wpListIn_load_row' rfl 70 (.tmp 8) rfl w2.heap.size rfl 70 A (0, 0) _ C3.out Try.underlying70 rfl (by rw [HSz.out]; kernel_rfl) ?_))
    refine ⟨trivial, rfl, ?_⟩
    (with_reducible refine ((callsIn_wide.2 (HBe.out W3)).inRound l).mono ?_)
    rintro e w4 ⟨rfl, u4⟩
    have hu34 := U3.out.then u4
    have c4 := u4.heap C3.out (noB _)
    have g4 := HG.out w4 _ c4
    have hm4 := hu34.heap Hm.out (noB _)
    have hsW' := Hu.out.size
    have hs34 := hu34.size
    have hs2 : W'.heap.size ≤ w2.heap.size := U2.out.size
    have hr4 := hu34.row Hr.out (fun k _ => noB k)
    have d1 : w4.cell? ⟨w.heap.size + 1, 1, none⟩ = some v := blk_cell hm4 1
    obtain ⟨W5, hW5⟩ : ∃ W5, W5 = w4.alloc (.cells #[.int .i64 (m : Nat)] 3) := ⟨_, rfl⟩
    have u5 : Upd NoB w4 W5 := by rw [hW5]; exact (Upd.refl _ _).alloc _
    have n5 : W5.heap[w4.heap.size]? = some (.cells #[.int .i64 (m : Nat)] 3 (0, 0)) := by rw [hW5]; exact heap_alloc_new w4 _
    have hr5 := u5.row hr4 (fun k _ => noB k)
    have HR5 := Lib.hid hr5; have HW5 := Lib.hid hW5; have U5 := Lib.hid u5; have U4 := Lib.hid hu34
    have N5 : Hid (∀ (j : Nat) (u : Value), [Value.int .i64 (m : Nat)][j]? = some u → W5.cell? ((⟨w4.heap.size, 0, none⟩ : Addr).add j) = some u) := Lib.hid (World.news_of_block n5)
    have C4 := Lib.hid c4; have M4 := Lib.hid hm4
    have hb1 : ps.length + 1 ≤ maxLen := by unfold maxLen; omega
    have hb2 : (ps.length + 1) * 8 ≤ 140737488355328 := by omega
    have hb3 : W.heap.size ≤ W5.heap.size := by have := u5.size; omega
    clear c4 hm4 hr4 u5 n5 hr5 hW5 u4 hu34
    have HTr := Lib.hid (show W5.heap[w.heap.size + 1]? = some (.cells #[.int .i64 (p : Int), v, .int .i64 (c : Nat)] 76 (0, 0)) from U5.out.heap M4.out (noB _))
    have HT5 := Lib.hid (U5.out.heap C4.out (noB _))
    have hvb : ∀ k, v.ownBlock = some k → W.heap.size ≤ k := fun k hk => (Hr.out.lt k hk).1
    have Hvb := Lib.hid hvb; clear hvb
    have Hvb2 := Lib.hid (fun k hk => (Hr.out.lt k hk).2 : ∀ k, v.ownBlock = some k → k < W'.heap.size)
    have hs45 := U5.out.size
    gi_wp2_with (first | (rw [← HW5.out]; refine wpListIn_append_own W5 rfl (.tmp 22) (.tmp 24) 27 rfl W.heap.size 3 i0 (.int .i64 0) 1 8 Try.underlying27 hi hz0 hz1 hz2 rfl (by decide) v ps.length (i64s ps) rfl HR5.out ⟨w4.heap.size, 0, none⟩ 1 1 [.int .i64 (m : Nat)] rfl rfl N5.out (by intro u hu; rw [List.mem_singleton] at hu; subst hu; rfl) hb1 hb2 hb3 ?_; intro v6 w6 hown6 hg6 _; obtain ⟨a6, c6, rfl⟩ := row_form hown6; have M6 := Lib.hid ((hg6.block _ (lt_of_block HTr.out) (fun e => by have := Hvb.out _ e.symm; omega)).trans HTr.out); obtain ⟨q0, q1, q2⟩ := cells3 M6.out; have f61 := blk_free M6.out 1; have T6 := Lib.hid ((hg6.block _ (lt_of_block HT5.out) (fun e => by have := Hvb2.out _ e.symm; omega)).trans HT5.out); have R6 := Lib.hid hown6; have G6 := Lib.hid hg6; clear hown6 hg6))
    obtain ⟨W7, hW7⟩ : ∃ W7, W7 = w6.setCell ⟨w.heap.size + 1, 1, none⟩ (.slice a6 (ps.length + 1) c6) := ⟨_, rfl⟩
    rw [← hW7]
    have hs56 : W5.heap.size ≤ w6.heap.size := G6.out.size
    have m7 : W7.heap[w.heap.size + 1]? = some (.cells #[.int .i64 (p : Int), .slice a6 (ps.length + 1) c6, .int .i64 (c : Nat)] 76 (0, 0)) := by rw [hW7]; exact block_set M6.out _
    have t7 : W7.heap[w2.heap.size]? = some (.cells A 70 (0, 0)) := by rw [hW7]; exact block_keep T6.out (by simp only; omega) _
    have u7 : Upd (fun k => k = w.heap.size + 1) w6 W7 := by rw [hW7]; exact (Upd.refl _ w6).setCell _ (fun _ => rfl)
    have r7 : W7.ownsRow W.heap.size 3 1 (.slice a6 (ps.length + 1) c6) (ps.length + 1) (i64s ps ++ [.int .i64 (m : Nat)]) := u7.row R6.out (fun k hk e => by have := (R6.out.lt k hk).1; omega)
    have uall : Upd (fun k => k = w.heap.size + 1) W W7 :=
      (((Hu.out.then U4.out).then U5.out).grown G6.out (fun k hk hlt => by have := Hvb.out k hk; omega)).trans u7 (fun _ _ h => h)
    have uW'7 : Upd (fun k => k = w.heap.size + 1 ∨ v.ownBlock = some k) W' W7 :=
      ((((U4.out.then U5.out).mono (T := fun k => k = w.heap.size + 1 ∨ v.ownBlock = some k) (fun _ _ h => h.elim)).grown G6.out (fun k hk _ => .inr hk))).trans u7 (fun _ _ h => .inl h)
    have e2 : W7.cell? ⟨w.heap.size + 1, 2, none⟩ = some (.int .i64 (c : Nat)) := blk_cell m7 2
    have gz := HG.out W7 _ t7
    have f72 := blk_free m7 2
    have m15 : (m : Int) < 15 := by omega
    have hw1 : IntKind.i64.wrap (4 + (z : Int)) = 4 + (z : Int) := IntWalk.i64_in _ (by omega)
    have hw2 : IntKind.i64.wrap ((c : Int) + (4 + (z : Int))) = (c : Int) + (4 + (z : Int)) := IntWalk.i64_in _ (by omega)
    have M7 := Lib.hid m7; have R7 := Lib.hid r7; have UA := Lib.hid uall; have UB := Lib.hid uW'7
    clear m7 t7 u7 r7 uall uW'7 hW7 q0 q1 q2 f61 d1 g4
    refine region_still_in 8 (by kernel_rfl) (by kernel_rfl) (by kernel_rfl) (fun ⟨_, _, h⟩ => h) ?_
    simp only [List.take_succ_cons, List.take_zero, List.drop_succ_cons, List.drop_zero]
    repeat still_step
    refine wpStill_nil ?_
    change wpList _ _ _ _ _ (World.drew W7)
    go_wp2_with fail
    have hall : Upd (fun k => k = w.heap.size + 1 ∨ v.ownBlock = some k) W' (W7.setCell ⟨w.heap.size + 1, 2, none⟩ (.int .i64 ((c : Int) + (4 + (z : Int))))).drew := (UB.out.setCell _ (fun _ => .inl rfl)).drew
    have ulast : Upd (fun k => k = w.heap.size + 1) W7 (W7.setCell ⟨w.heap.size + 1, 2, none⟩ (.int .i64 ((c : Int) + (4 + (z : Int))))).drew := ((Upd.refl (fun k => k = w.heap.size + 1) W7).setCell (p := ⟨w.heap.size + 1, 2, none⟩) _ (fun _ => rfl)).drew
    refine ⟨notcells_grown hall (fun k hk => ?_) _, fun k hk => hall.block k (by rcases hk with rfl | rfl <;> omega) (fun e => ?_), ⟨.slice a6 (ps.length + 1) c6, ps ++ [(m : Int)], c + (4 + z), ?_, ?_, Next.out⟩, UA.out.trans ulast (fun _ _ h => h)⟩
    · rcases hk with rfl | hk
      · exact ⟨_, _, _, Hm.out⟩
      · rcases Hr.out.2 with ⟨rfl, _⟩ | ⟨g, cp, cur, rfl, _, hg, _⟩
        · simp [Value.ownBlock] at hk
        · have : g = k := by simpa [Value.ownBlock] using hk
          subst this
          exact ⟨_, _, _, hg⟩
    · rcases e with e | e
      · rcases hk with h | h <;> omega
      · have := Hvb.out k e
        rcases hk with h | h <;> omega
    · have hb := block_set (i := 2) M7.out (.int .i64 ((c : Int) + (4 + (z : Int))))
      rw [show ((c + (4 + z) : Nat) : Int) = (c : Int) + (4 + (z : Int)) by simp]
      exact hb
    · rw [List.length_append, show ps.length + [(m : Int)].length = ps.length + 1 from rfl, i64s_append]
      exact ulast.row R7.out (fun k hk e => by have := (R7.out.lt k hk).1; omega)
  case done =>
    rintro D ys W' hD' hS ⟨⟨v, ps, c, hm, hr, hok⟩, hu'⟩ hK
    have hlen : ys.length = M := by have := congrArg List.length hS; simpa using this
    obtain ⟨e1, e2⟩ := hok.2.2 (by rw [hlen]; exact hS)
    rw [hlen] at e1 e2
    subst e1
    have hbk := hu'.heap B0.out (by omega)
    have hc9 := hok.2.1
    rw [hlen] at hc9
    rw [parS_len] at hr
    obtain ⟨va, vc, rfl⟩ := row_form hr
    obtain ⟨d0, d1, d2⟩ := cells3 hm
    obtain ⟨g0, g1, g2⟩ := cells3 hbk
    have f0 := blk_free hbk 0
    have f1 := blk_free hbk 1
    have f2 := blk_free hbk 2
    have HK := Lib.hid hK; have Hbk := Lib.hid hbk; have Hr := Lib.hid hr; have Hu := Lib.hid hu'
    have HE := Lib.hid (e2.trans HW0.out.symm)
    clear hm hr hok hu' hK hS hbk b1 e2 h0lt
    go_wp2
    refine ⟨by simp, .inl ⟨_, _, rfl, run_takeDeferred (heap_later' (heap_later' (heap_later' HK.out (by omega)) (by omega)) (by omega)), ?_⟩⟩
    have hheap : ((((W'.setCell ⟨w.heap.size, 0, none⟩ (.int .i64 (p : Int))).setCell ⟨w.heap.size, 1, none⟩ (.slice va M vc)).setCell ⟨w.heap.size, 2, none⟩ (.int .i64 (c : Nat))).putObj D (.deferred none)).heap[w.heap.size]? = some (.cells #[.int .i64 (p : Int), .slice va M vc, .int .i64 (c : Nat)] 76 (0, 0)) :=
      (World.putObj_heap_other (by omega)).trans (block_set (block_set (block_set Hbk.out _) _) _)
    have u9 : Upd (fun k => k = w.heap.size) W' (((W'.setCell ⟨w.heap.size, 0, none⟩ (.int .i64 (p : Int))).setCell ⟨w.heap.size, 1, none⟩ (.slice va M vc)).setCell ⟨w.heap.size, 2, none⟩ (.int .i64 (c : Nat))) :=
      (((Upd.refl (fun k => k = w.heap.size) W').setCell (p := ⟨w.heap.size, 0, none⟩) _ (fun _ => rfl)).setCell (p := ⟨w.heap.size, 1, none⟩) _ (fun _ => rfl)).setCell (p := ⟨w.heap.size, 2, none⟩) _ (fun _ => rfl)
    refine ⟨_, results_cell_row rfl _ _ w.heap.size 76 _ (0, 0) _ rfl hheap Try.underlying76 rfl (by kernel_rfl), .slice va M vc, by rw [HE.out], ?_, ?_⟩
    · have hr9 := u9.row Hr.out (fun k hk e => by have := (Hr.out.lt k hk).1; omega)
      refine row_base (row_grown hr9 (grownBy_putObj' _ _ _) (fun r e => ?_)) (by have := HU.out.size; omega)
      cases e
      exact ⟨_, heap_later' (heap_later' (heap_later' HK.out (by omega)) (by omega)) (by omega), rfl⟩
    · have hs := HU.out.size
      have hall : Upd (fun k => w.heap.size ≤ k) w ((((W'.setCell ⟨w.heap.size, 0, none⟩ (.int .i64 (p : Int))).setCell ⟨w.heap.size, 1, none⟩ (.slice va M vc)).setCell ⟨w.heap.size, 2, none⟩ (.int .i64 (c : Nat))).putObj D (.deferred none)) :=
        (((HU.out.mono (T := fun k => w.heap.size ≤ k) (fun _ _ h => h.elim)).trans Hu.out (fun k _ h => by omega)).trans u9 (fun k _ h => by omega)).grown (grownBy_putObj' _ _ _) (fun k e hlt => by cases e; omega)
      exact hall.mono (fun k hk h => by omega)
  case stop =>
    rintro D c pre W _ _ h _
    exact h.elim
end Go.Proofs.Ytmdladcfckoglaa
