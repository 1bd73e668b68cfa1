/- linear: the sum of products; the predictor -/
import Derived.Test.YtopjjdfnnjgnlaaTE
import Derived.StillTailTactics
import Derived.Laws.CopyOwn
namespace Go.Proofs.Ytopjjdfnnjgnlaa
open Go.RowKit Go.Shelf
attribute [local go_sem] Oper.semAt_some

theorem products_any (sx sy : Value) (w : World) (hx : ∃ a n c, sx = .slice a n c) (hy : ∃ a n c, sy = .slice a n c) : Calls Try.prog 104 #[sx, sy] w fun e w' =>
    e = .returned (.func (.func 115) #[] #[.pointer (some ⟨w.heap.size, 0, none⟩), .pointer (some ⟨w.heap.size + 1, 0, none⟩)]) ∧ w' = (w.alloc (.cells #[sx] 22)).alloc (.cells #[sy] 22) := by
  obtain ⟨a, n, c, rfl⟩ := hx
  obtain ⟨a2, n2, c2, rfl⟩ := hy
  go_enter Try.func104, Try.ntmps104
  go_wp2
  go_ret
  exact ⟨rfl, rfl⟩
def prodD (B : Nat) (sx sy : Value) (xs ys : List Int) : Nat → Prop := fun k => k = B ∨ k = B + 1 ∨ (xs ≠ [] ∧ sx.ownBlock = some k) ∨ (ys ≠ [] ∧ sy.ownBlock = some k)
theorem products1_seq (B n : Nat) (sx sy : Value) (xs ys : List Int) (w : World) (hl : xs.length ≤ 1000000 ∧ ys.length ≤ 1000000)
    (hb : ∀ (k : Nat) (x y : Int), xs[k]? = some x → ys[k]? = some y → -4611686018427387904 ≤ x * y ∧ x * y ≤ 4611686018427387904)
    (hx : Ints w sx xs) (hy : Ints w sy ys) (hb1 : w.cell? ⟨B, 0, none⟩ = some sx) (hb2 : w.cell? ⟨B + 1, 0, none⟩ = some sy) (hD : ∀ k, prodD B sx sy xs ys k → k < w.heap.size) :
    SeqN Fence.wide n Try.prog 115 #[.pointer (some ⟨B, 0, none⟩), .pointer (some ⟨B + 1, 0, none⟩)] (encP xs ys) (fun A A' => KeepD (prodD B sx sy xs ys) A A' ∧ A.heap.size ≤ A'.heap.size) 0 (min xs.length ys.length) w := fun l J W hW hJ hY h0 => by
  have hk : KeepD (prodD B sx sy xs ys) w W := fun k hk => hW.block k (hD k hk)
  exact products1_in l B (B + 1) n sx sy xs ys _ rfl hl hb J (prodD B sx sy xs ys) (.inl rfl) (.inr (.inl rfl)) W
    (fun V hV => ⟨hx.keepD (hk.trans hV) (fun h b e => .inr (.inr (.inl ⟨h, e⟩))), hy.keepD (hk.trans hV) (fun h b e => .inr (.inr (.inr ⟨h, e⟩)))⟩) hJ
    (fun k V hj hv hlt => (hY k V hj hv hlt).mono fun e V' h => ⟨h.1, h.2.1, h.2.2.1.1, h.2.2.1.2⟩)
    ((hk.cell (p := ⟨B, 0, none⟩) (.inl rfl)).trans hb1) ((hk.cell (p := ⟨B + 1, 0, none⟩) (.inr (.inl rfl))).trans hb2) h0
theorem notcells_grown {S : Nat → Prop} {W W' : World} (h : Upd S W W') (hs : ∀ k, S k → ∃ c t fr, W.heap[k]? = some (.cells c t fr)) (B : Nat) : KeepsFrom B W W' :=
  ⟨h.size, fun k o _ hk ho => h.heap hk (fun hS => by
    obtain ⟨c, t, fr, hc⟩ := hs k hS
    rw [hc] at hk; cases hk; cases ho)⟩
set_option maxRecDepth 100000 in
set_option maxHeartbeats 2000000 in
theorem sum_any (B : Nat) (sx sy : Value) (xs ys : List Int) (w : World) (hl : xs.length ≤ 1000000 ∧ ys.length ≤ 1000000)
    (hb : ∀ (k : Nat) (x y : Int), xs[k]? = some x → ys[k]? = some y → -4611686018427387904 ≤ x * y ∧ x * y ≤ 4611686018427387904)
    (hs : ∀ k, -4611686018427387904 ≤ dotK xs ys k ∧ dotK xs ys k ≤ 4611686018427387904)
    (hx : Ints w sx xs) (hy : Ints w sy ys) (hb1 : w.cell? ⟨B, 0, none⟩ = some sx) (hb2 : w.cell? ⟨B + 1, 0, none⟩ = some sy) :
    Calls Try.prog 103 #[.func (.func 115) #[] #[.pointer (some ⟨B, 0, none⟩), .pointer (some ⟨B + 1, 0, none⟩)]] w fun e w' => e = .returned (.int .i64 (dotL xs ys)) ∧ Upd NoB w w' := by
  obtain ⟨W, hW⟩ : ∃ W, W = w.alloc (.cells #[.int .i64 0] 3) := ⟨_, rfl⟩
  have b0 : W.heap[w.heap.size]? = some (.cells #[.int .i64 0] 3 (0, 0)) := by rw [hW]; exact heap_alloc_new w _
  have u0 : Upd NoB w W := by rw [hW]; exact (Upd.refl _ _).alloc _
  have hsz : w.heap.size < W.heap.size := lt_of_block b0
  have hD : ∀ k, prodD B sx sy xs ys k → k < w.heap.size := fun k hk => by
    rcases hk with rfl | rfl | ⟨h1, h2⟩ | ⟨h1, h2⟩
    · exact World.block_lt_of_cell? w _ hb1
    · exact World.block_lt_of_cell? w _ hb2
    · exact hx.lt h1 k h2
    · exact hy.lt h1 k h2
  have HS := Lib.hid (products1_seq B 1 sx sy xs ys W hl hb (hx.later u0) (hy.later u0) (u0.cell hb1 (noB _)) (u0.cell hb2 (noB _)) (fun k hk => by have := hD k hk; omega))
  have HW := Lib.hid hW; have U0 := Lib.hid u0; have B0 := Lib.hid b0
  have HSm := Lib.hid hs
  have HAll := Lib.hid (dotK_all xs ys)
  have HNx := Lib.hid (fun k (hk : k < min xs.length ys.length) => (show ∃ x y, xs.getD k 0 * ys.getD k 0 = x * y ∧ dotK xs ys (k + 1) = dotK xs ys k + x * y by
    obtain ⟨x, hx⟩ : ∃ x, xs[k]? = some x := ⟨_, List.getElem?_eq_getElem (by omega)⟩
    obtain ⟨y, hy⟩ : ∃ y, ys[k]? = some y := ⟨_, List.getElem?_eq_getElem (by omega)⟩
    exact ⟨x, y, by rw [List.getD_eq_getElem?_getD, List.getD_eq_getElem?_getD, hx, hy]; rfl, dotK_succ xs ys k x y hx hy⟩))
  have HDd := Lib.hid hD
  have HZ0 := Lib.hid (show dotK xs ys 0 = 0 by unfold dotK; rw [List.take_zero, dotL_nil])
  generalize min xs.length ys.length = N at *
  generalize prodD B sx sy xs ys = D at *
  generalize dotL xs ys = DT at *
  clear hx hy hb1 hb2 hW u0 b0 hs hb hD hl
  refine (callsIn_wide (n := 2)).1 ?_
  refine callsIn_of_wp_marks Try.func103 rfl trivial (wpIn_wide.2 ?_) rfl
  simp only [Try.ntmps103, List.size_toArray, List.length_cons, List.length_nil, Nat.reduceAdd, Nat.reduceSub, Array.replicate_succ, Array.replicate_zero, List.push_toArray, List.append_toArray, List.nil_append, List.cons_append]
  go_wp2_with fail
  rw [← HW.out]
  refine (wpIn_wide (n := 2)).1 (wpIn_rangeN rfl (by omega) (gf := 115) (lb := #[.pointer (some ⟨B, 0, none⟩), .pointer (some ⟨B + 1, 0, none⟩)]) rfl trivial (enters_of Try.func115 (by kernel_rfl) rfl) HS.out (fun h k => ⟨h.1.trans k.1, Nat.le_trans h.2 k.2⟩) (fun W' l o' hl => ⟨keepD_putObj (fun hd => by have := HDd.out _ hd; omega), (grownBy_putObj' W' l o').size⟩) (Below.refl _ _) (fun _ => rfl)
    (fun k W' => W'.heap[w.heap.size]? = some (.cells #[.int .i64 (dotK xs ys k)] 3 (0, 0)) ∧ Upd (fun j => j = w.heap.size) W W')
    ?hI ⟨by rw [HZ0.out]; exact B0.out, Upd.refl _ _⟩
    (fun k a' _ => a' = { tmps := #[.func (.func 115) #[] #[.pointer (some ⟨B, 0, none⟩), .pointer (some ⟨B + 1, 0, none⟩)], undef, .int .i64 0, .pointer (some ⟨w.heap.size, 0, none⟩), .int .i64 (xs.getD k 0 * ys.getD k 0), .func (.func 115) #[] #[.pointer (some ⟨B, 0, none⟩), .pointer (some ⟨B + 1, 0, none⟩)], .int .i64 (xs.getD k 0 * ys.getD k 0), undef, undef, undef, undef], defers := [] }) (fun _ _ _ _ _ _ hs _ _ => hs) ?assign ?body ?done)
  case hI =>
    rintro s A B' row ⟨h1, h4⟩ hg hr
    refine ⟨(hg.block _ (lt_of_block h1) (fun e => ?_)).trans h1, h4.grown hg (fun k e hk => ?_)⟩
    · have := (hr _ e.symm).1; omega
    · have := (hr k e).1; omega
  case assign =>
    intro l k W' K hi hk hK
    gi_wp2
    exact hK _ _ (KeepsFrom.refl _ _) ⟨⟨KeepD.refl _ _, Nat.le_refl _⟩, Win.refl _ _ _⟩ hi rfl
  case body =>
    rintro l k a' W' ⟨hm, hu⟩ rfl hVs hk
    obtain ⟨x, y, hxy, hnx⟩ := HNx.out k hk
    have c0 := blk_cell hm 0
    have f0 := blk_free hm 0
    have s0 := HSm.out k
    have s1 := HSm.out (k + 1)
    rw [hxy]
    rw [hnx] at s1
    have HNk := Lib.hid hnx
    generalize x * y = q at *
    have u10 : Upd (fun j => j = w.heap.size) W' (W'.setCell ⟨w.heap.size, 0, none⟩ (.int .i64 (dotK xs ys k + q))) := (Upd.refl _ W').setCell _ (fun _ => rfl)
    have HM := Lib.hid hm; have HU := Lib.hid hu; have HU10 := Lib.hid u10
    have HM2 := Lib.hid (block_set hm (i := 0) (.int .i64 (dotK xs ys k + q)))
    generalize dotK xs ys k = S at *
    have z1 : wrap64 (S + q) = S + q := IntWalk.wrap64_in _ (by omega)
    have z2 : IntKind.i64.wrap (S + q) = S + q := IntWalk.i64_in _ (by omega)
    clear hm hu u10 hnx hxy s0 s1
    gi_wp2
    refine ⟨notcells_grown HU10.out (fun j hj => by subst hj; exact ⟨_, _, _, HM.out⟩) _, ⟨⟨fun j hj => HU10.out.block j (by have := HDd.out j hj; omega) (fun e => by have := HDd.out j hj; have e : j = w.heap.size := e; omega), HU10.out.size⟩, fun j h1 h2 => by omega⟩, by rw [HNk.out]; exact HM2.out, HU.out.trans HU10.out (fun _ _ h => h)⟩
  case done =>
    rintro D' W' hD' ⟨hm, hu⟩ hK
    have c0 : W'.cell? ⟨w.heap.size, 0, none⟩ = some (.int .i64 (dotK xs ys N)) := blk_cell hm 0
    rw [HAll.out] at c0
    have HU := Lib.hid hu; have HK := Lib.hid hK
    clear hm hu hK
    go_wp2
    refine ⟨by simp, .inl ⟨_, _, rfl, run_takeDeferred HK.out, ?_⟩⟩
    refine ⟨_, results_tmp rfl _ _ _, rfl, ?_⟩
    have hall : Upd (fun j => w.heap.size ≤ j) w (W'.putObj D' (.deferred none)) :=
      (((U0.out.mono (T := fun j => w.heap.size ≤ j) (fun _ _ h => h.elim)).trans HU.out (fun k _ h => by have h : k = w.heap.size := h; show w.heap.size ≤ k; omega))).grown (grownBy_putObj' _ _ _) (fun k e hlt => by cases e; show w.heap.size ≤ D'; omega)
    exact hall.mono (fun k hk h => by have h : w.heap.size ≤ k := h; exfalso; omega)
end Go.Proofs.Ytopjjdfnnjgnlaa
