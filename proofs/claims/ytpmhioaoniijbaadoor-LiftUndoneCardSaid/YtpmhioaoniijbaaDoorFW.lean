/- within -/
import Derived.Test.YtpmhioaoniijbaaDoorFV
import Derived.Deep.QuietTactic
import Derived.BigQuiet
namespace Go.Proofs.YtpmhioaoniijbaaDoor
open Go.RowKit Go.Shelf
attribute [local go_sem] Oper.semAt_some

/-- The variable parts holds its table. -/
def Parts (w : World) : Prop := ∀ i, i < 12 → w.cell? ⟨0, 2 * i, none⟩ = some (.int .i64 (pc i : Nat)) ∧ w.cell? ⟨0, 2 * i + 1, none⟩ = some (.int .i64 (ps i : Nat))
theorem Parts.lt {w : World} (h : Parts w) : 0 < w.heap.size := World.block_lt_of_cell? w _ (h 0 (by omega)).1
theorem Parts.upd {S : Nat → Prop} {w w' : World} (h : Parts w) (u : Upd S w w') (hs : ¬ S 0) : Parts w' := fun i hi => ⟨u.cell (h i hi).1 hs, u.cell (h i hi).2 hs⟩
/-- the point after some digits: as the table says, where they came in their order -/
def WOk (v : Nat) (pre : List (Ix 12)) (X Y : Int) : Prop := pre.map Subtype.val = List.range pre.length → X = ((wR (bitsR v 12 (List.range pre.length))).1 : Nat) ∧ Y = ((wR (bitsR v 12 (List.range pre.length))).2 : Nat)
theorem good_snoc {pre : List (Ix 12)} {x : Ix 12} (h : (pre ++ [x]).map Subtype.val = List.range (pre ++ [x]).length) : pre.map Subtype.val = List.range pre.length ∧ x.1 = pre.length := by
  rw [List.map_append, List.length_append, List.length_cons, List.length_nil, Nat.zero_add, List.range_succ] at h
  have := List.append_inj h (by simp)
  refine ⟨this.1, ?_⟩
  have h2 := this.2
  simpa using h2
theorem WOk.zero {v : Nat} {pre : List (Ix 12)} {x : Ix 12} {X Y : Int} (h : WOk v pre X Y) (hb : ¬ bitAt v 12 x.1 = 1) : WOk v (pre ++ [x]) X Y := fun hg => by
  obtain ⟨h1, h2⟩ := good_snoc hg
  obtain ⟨e1, e2⟩ := h h1
  have hl : (pre ++ [x]).length = pre.length + 1 := by simp
  rw [hl, List.range_succ, bitsR_snoc, wR, if_neg (by rw [← h2]; exact hb)]
  exact ⟨e1, e2⟩
def wX (X Y c s : Int) : Int := nfI (wrap64 (wrap64 (X * c) - wrap64 (Y * s)))
def wY (X Y c s : Int) : Int := nfI (wrap64 (wrap64 (X * s) + wrap64 (Y * c)))
theorem WOk.one {v : Nat} {pre : List (Ix 12)} {x : Ix 12} {X Y : Int} (h : WOk v pre X Y) (hl12 : pre.length < 12) (hb : bitAt v 12 x.1 = 1) : WOk v (pre ++ [x]) (wX X Y (pc x.1 : Nat) (ps x.1 : Nat)) (wY X Y (pc x.1 : Nat) (ps x.1 : Nat)) := fun hg => by
  obtain ⟨h1, h2⟩ := good_snoc hg
  obtain ⟨rfl, rfl⟩ := h h1
  have hl : (pre ++ [x]).length = pre.length + 1 := by simp
  have ok := wR_ok v (List.range pre.length) (by simpa using hl12)
  simp only [List.length_range] at ok
  rw [hl, List.range_succ, bitsR_snoc, wR, if_pos (by rw [← h2]; exact hb), bitsR_length, List.length_range, h2]
  generalize wR (bitsR v 12 (List.range pre.length)) = p at *
  obtain ⟨a, b⟩ := p
  simp only at ok ⊢
  generalize pc pre.length = c at *
  generalize ps pre.length = s at *
  have e1 : (a : Int) * c = ((a * c : Nat) : Int) := by simp
  have e2 : (b : Int) * s = ((b * s : Nat) : Int) := by simp
  have e3 : (a : Int) * s = ((a * s : Nat) : Int) := by simp
  have e4 : (b : Int) * c = ((b * c : Nat) : Int) := by simp
  unfold wX wY wnx
  rw [e1, e2, e3, e4]
  generalize a * c = ac at *
  generalize b * s = bs at *
  generalize a * s = cs' at *
  generalize b * c = bc at *
  simp only
  rw [IntWalk.wrap64_in (ac : Int) (by omega), IntWalk.wrap64_in (bs : Int) (by omega), IntWalk.wrap64_in (cs' : Int) (by omega), IntWalk.wrap64_in (bc : Int) (by omega),
    IntWalk.wrap64_in ((ac : Int) - bs) (by omega), IntWalk.wrap64_in ((cs' : Int) + bc) (by omega), nfI_of (by omega) (by omega), nfI_of (by omega) (by omega)]
  omega
theorem cell_of_block0 {w : World} {b : Nat} {u v : Value} {t : TypeId} (h : w.heap[b]? = some (.cells #[u, v] t (0, 0))) : w.cell? ⟨b, 0, none⟩ = some u := by simp [World.cell?, h]
theorem cell_of_block1 {w : World} {b : Nat} {u v : Value} {t : TypeId} (h : w.heap[b]? = some (.cells #[u, v] t (0, 0))) : w.cell? ⟨b, 1, none⟩ = some v := by simp [World.cell?, h]
theorem free_of_block {w : World} {b : Nat} {c : Array Value} {t : TypeId} (h : w.heap[b]? = some (.cells c t (0, 0))) (i : Nat) : w.frozen? ⟨b, i, none⟩ = false := by
  unfold World.frozen?
  rw [h]
  simp
set_option maxRecDepth 100000 in
set_option maxHeartbeats 2000000 in
theorem within_any (v : Nat) (w : World) (hv : v < 4096) (hp : Parts w) :
    Calls Tryd.prog 40 #[.int .i64 v] w fun e w' => e = .returned (.agg #[.int .i64 ((wst v 12).1 : Nat), .int .i64 ((wst v 12).2 : Nat)]) ∧ Upd NoB w w' := by
  have HP := Lib.hid hp; clear hp
  refine (callsIn_wide (n := 2)).1 ?_
  refine callsIn_of_wp_marks Tryd.func40 rfl trivial (wpIn_wide.2 ?_) rfl
  simp only [Tryd.ntmps40, List.size_toArray, List.length_cons, List.length_nil, Nat.reduceAdd, Nat.reduceSub, Array.replicate_succ, Array.replicate_zero, List.push_toArray, List.append_toArray, List.nil_append, List.cons_append]
  go_wp2_with fail
  refine (digits_in (v : Int) 12 _).mono ?_
  rintro e w2 ⟨rfl, rfl⟩
  obtain ⟨W, hW⟩ : ∃ W, W = (((w.alloc (.cells #[.int .i64 0, .int .i64 0] 46)).alloc (.cells #[.int .i64 2147483648, .int .i64 0] 46)).alloc (.cells #[.int .i64 v] 3)).alloc (.cells #[.int .i64 12] 3) := ⟨_, rfl⟩
  rw [← hW]
  obtain ⟨b0, b1, b2, b3, hu⟩ := boxes4 w (.cells #[.int .i64 0, .int .i64 0] 46) (.cells #[.int .i64 2147483648, .int .i64 0] 46) (.cells #[.int .i64 v] 3) (.cells #[.int .i64 12] 3)
  rw [← hW] at b0 b1 b2 b3 hu
  clear hW
  have hsz := lt_of_block b3
  have hw0 := HP.out.lt
  go_wp2_with fail
  have hkD : ∀ {k : Nat}, digD (w.heap.size + 2) k → ∀ W' : World, Upd (fun k => k = w.heap.size + 1) W W' → k < W'.heap.size := fun hk W' h => by
    have := h.size
    rcases hk with rfl | rfl <;> omega
  refine (wpIn_wide (n := 2)).1 (wpIn_rangeFunc_ownG rfl (by omega) (gf := 88) (lb := #[.pointer (some ⟨w.heap.size + 2 + 1, 0, none⟩), .pointer (some ⟨w.heap.size + 2, 0, none⟩)]) rfl trivial (enters_of Tryd.func88 (by kernel_rfl) rfl)
    (digitsx_seq (w.heap.size + 2) v 12 W (by omega) (by omega) (cell_of_one b3) (cell_of_one b2) hsz) (fun h k => h.trans k)
    (fun W' l o o' hl _ _ _ => keepD_putObj (fun hd => by rcases hd with rfl | rfl <;> omega)) (Below.refl _ _) (fun _ => rfl)
    (fun pre W' => (∃ X Y : Int, W'.heap[w.heap.size + 1]? = some (.cells #[.int .i64 X, .int .i64 Y] 46 (0, 0)) ∧ WOk v pre X Y) ∧ Upd (fun k => k = w.heap.size + 1) W W' ∧ pre.length ≤ 12)
    (fun _ _ _ => False) ?hI (fun _ _ _ _ _ hs _ _ => hs) ⟨⟨2147483648, 0, b1, fun _ => ⟨rfl, rfl⟩⟩, Upd.refl _ _, by simp⟩
    (fun x => { tmps := #[.int .i64 v, undef, .pointer (some ⟨w.heap.size, 0, none⟩), .pointer (some ⟨w.heap.size + 1, 0, none⟩), .int .i64 (x.1 : Nat), .int .i64 (bitAt v 12 x.1 : Nat), undef, undef, .agg #[.int .i64 2147483648, .int .i64 0], .int .i64 v, .func (.func 88) #[] #[.pointer (some ⟨w.heap.size + 1 + 1 + 1, 0, none⟩), .pointer (some ⟨w.heap.size + 1 + 1, 0, none⟩)], .int .i64 (x.1 : Nat), .int .i64 (bitAt v 12 x.1 : Nat), undef, undef, undef, undef, undef, undef, undef, undef, undef, undef, undef, undef, undef, undef, undef, undef, undef, undef, undef, undef, undef, undef, undef, undef, undef, undef, undef, undef, undef, undef, undef, undef], defers := [] }) ?assign ?body ?done ?stop)
  case hI =>
    rintro s A B row ⟨⟨X, Y, h1, h2⟩, h3, h4⟩ hg hr
    refine ⟨⟨X, Y, (hg.block _ (lt_of_block h1) (fun e => ?_)).trans h1, h2⟩, h3.grown hg (fun k e hk => ?_), h4⟩
    · have := (hr _ e.symm).1; omega
    · have := (hr k e).1; omega
  case assign =>
    intro l x W' K hK
    gi_wp2
    exact hK
  case body =>
    rintro l pre x W' ⟨⟨X, Y, hm, hok⟩, hu', hl⟩ hN
    have hy1 : bitAt v 12 x.1 ≤ 1 := by unfold bitAt; omega
    by_cases hy : bitAt v 12 x.1 = 1
    · have hP' : Parts W' := (HP.out.upd hu (noB 0)).upd hu' (by omega)
      have Next := Lib.hid (hok.one (x := x) hN hy)
      have hx := x.2
      have g0 := (hP' x.1 hx).1
      have g1 := (hP' x.1 hx).2
      have d0 := cell_of_block0 hm
      have d1 := cell_of_block1 hm
      have f0 := free_of_block hm 0
      have f1 := free_of_block hm 1
      rw [hy]
      obtain ⟨x, hx'⟩ := x
      simp only at *
      generalize pc x = c at *
      generalize ps x = s at *
      have Hm := Lib.hid hm; have Hu := Lib.hid hu'; clear hm hu' hok hy hP' b0 b1 b2 b3
      rw [Nat.mul_comm] at g0 g1
      have xb : (x : Int) < 12 := by omega
      gi_wp2
      refine region_still_in 9 (by kernel_rfl) (by kernel_rfl) (by kernel_rfl) (fun ⟨_, _, h⟩ => h) ?_
      simp only [List.take_succ_cons, List.take_zero, List.drop_succ_cons, List.drop_zero]
      repeat still_step
      refine wpStill_nil ?_
      change wpList _ _ _ _ _ (World.drew W')
      go_wp2_with fail
      obtain ⟨W2, hW2⟩ : ∃ W2, W2 = W'.drew := ⟨_, rfl⟩
      rw [← hW2]
      have d0 : W2.cell? ⟨w.heap.size + 1, 0, none⟩ = some (.int .i64 X) := by rw [hW2]; exact d0
      have d1 : W2.cell? ⟨w.heap.size + 1, 1, none⟩ = some (.int .i64 Y) := by rw [hW2]; exact d1
      have f0 : W2.frozen? ⟨w.heap.size + 1, 0, none⟩ = false := by rw [hW2]; exact f0
      have f1 : W2.frozen? ⟨w.heap.size + 1, 1, none⟩ = false := by rw [hW2]; exact f1
      have HW2 := Lib.hid hW2; clear hW2
      refine region_still_in 21 (by kernel_rfl) (by kernel_rfl) (by kernel_rfl) (fun ⟨_, _, h⟩ => h) ?_
      simp only [List.take_succ_cons, List.take_zero, List.drop_succ_cons, List.drop_zero]
      iterate 9 still_step
      still_call (nearFine_any _ _)
      iterate 9 still_step
      still_call (nearFine_any _ _)
      still_step
      refine wpStill_nil ?_
      change wpList _ _ _ _ _ (World.drew W2)
      go_wp2_with fail
      have hall : Upd (fun k => k = w.heap.size + 1) W' ((W2.setCell ⟨w.heap.size + 1, 0, none⟩ (.int .i64 (wX X Y c s))).setCell ⟨w.heap.size + 1, 1, none⟩ (.int .i64 (wY X Y c s))).drew :=
        ((((show Upd (fun k => k = w.heap.size + 1) W' W2 by rw [HW2.out]; exact (Upd.refl _ _).drew).setCell _ (fun _ => rfl)).setCell _ (fun _ => rfl))).drew
      have hm2 : W2.heap[w.heap.size + 1]? = some (.cells #[.int .i64 X, .int .i64 Y] 46 (0, 0)) := by rw [HW2.out]; exact Hm.out
      refine ⟨keeps_of_upd hall (fun k hB e => by omega), fun k hk => hall.block k (hkD hk W' Hu.out) (by rcases hk with rfl | rfl <;> omega), ⟨wX X Y c s, wY X Y c s, block_set (block_set hm2 _) _, Next.out⟩, Hu.out.trans hall (fun _ _ h => h), by simp; omega⟩
    · have hy0 : bitAt v 12 x.1 = 0 := by omega
      have Next := Lib.hid (hok.zero (x := x) hy)
      rw [hy0]
      have Hm := Lib.hid hm; have Hu := Lib.hid hu'; clear hm hu' hok hy hy0 b0 b1 b2 b3
      gi_wp2
      exact ⟨KeepsFrom.refl _ _, KeepD.refl _ _, ⟨X, Y, Hm.out, Next.out⟩, Hu.out, by simp; omega⟩
  case done =>
    rintro D ys W' hD' hS ⟨⟨X, Y, hm, hok⟩, hu', hl⟩ hK
    have hlen : ys.length = 12 := by have := congrArg List.length hS; simpa using this
    have hXY := hok (by rw [hlen]; exact hS)
    rw [hlen, wR_end v hv] at hXY
    obtain ⟨rfl, rfl⟩ := hXY
    have hr : W'.heap[w.heap.size]? = some (.cells #[.int .i64 0, .int .i64 0] 46 (0, 0)) := hu'.heap b0 (by omega)
    have d0 := cell_of_block0 hm
    have d1 := cell_of_block1 hm
    have e0 := cell_of_block0 hr
    have e1 := cell_of_block1 hr
    have f0 := free_of_block hr 0
    have f1 := free_of_block hr 1
    obtain ⟨X, eX⟩ : ∃ X, (wst v 12).1 = X := ⟨_, rfl⟩
    obtain ⟨Y, eY⟩ : ∃ Y, (wst v 12).2 = Y := ⟨_, rfl⟩
    rw [eX] at d0
    rw [eY] at d1
    have EX := Lib.hid eX; have EY := Lib.hid eY; clear eX eY
    have HK := Lib.hid hK; have Hr := Lib.hid hr; have Hm := Lib.hid hm; have Hu := Lib.hid hu'
    clear hK hr hm hu' hok hS b0 b1 b2 b3
    go_wp2
    refine ⟨by simp, .inl ⟨_, _, rfl, run_takeDeferred (heap_later (heap_later HK.out (by omega)) (by omega)), ?_⟩⟩
    have hheap : (((W'.setCell ⟨w.heap.size, 0, none⟩ (.int .i64 X)).setCell ⟨w.heap.size, 1, none⟩ (.int .i64 Y)).putObj D (.deferred none)).heap[w.heap.size]? = some (.cells #[.int .i64 X, .int .i64 Y] 46 (0, 0)) :=
      (World.putObj_heap_other (by omega)).trans (block_set (block_set Hr.out _) _)
    have hall : Upd (fun k => w.heap.size ≤ k) w (((W'.setCell ⟨w.heap.size, 0, none⟩ (.int .i64 X)).setCell ⟨w.heap.size, 1, none⟩ (.int .i64 Y)).putObj D (.deferred none)) :=
      ((((hu.mono (T := fun k => w.heap.size ≤ k) (fun _ _ h => h.elim)).trans Hu.out (fun k _ h => by omega)).setCell _ (fun _ => Nat.le_refl _)).setCell _ (fun _ => Nat.le_refl _)).grown (grownBy_putObj' _ _ _) (fun k e hlt => by cases e; have := hu.size; omega)
    refine ⟨_, results_cell_row rfl _ _ w.heap.size 46 _ (0, 0) _ rfl hheap Tryd.underlying46 rfl (by kernel_rfl), ?_, hall.mono (fun k hk h => by omega)⟩
    rw [EX.out, EY.out]
  case stop =>
    rintro D c pre W _ _ h _
    exact h.elim
end Go.Proofs.YtpmhioaoniijbaaDoor
