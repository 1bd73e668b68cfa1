/- bands: areGroups, and the division -/
import Derived.Test.YtaplmdkjoijcgaaDoorNA
import Derived.Laws.ResultCell
import Derived.Laws.Rows
namespace Go.Proofs.YtaplmdkjoijcgaaDoor
open Go.RowKit Go.Shelf

theorem Ints.cellAt {w : World} {a : Option Addr} {n cap : Nat} {xs : List Int} (h : Ints w (.slice a n cap) xs) {k : Nat} {x : Int} (hx : xs[k]? = some x) : ∃ b off, a = some ⟨b, off, none⟩ ∧ w.cell? ⟨b, off + k, none⟩ = some (.int .i64 x) := by
  obtain ⟨_, a', cap', e, _, h3⟩ := h
  injection e with e1 e2 e3
  subst e1
  rcases h3 with h3 | ⟨b, off, rfl, h3⟩
  · subst h3; simp at hx
  · exact ⟨b, off, rfl, h3 k x hx⟩
set_option maxRecDepth 100000 in
set_option maxHeartbeats 1000000 in
theorem areGroups_any (v : Value) (gs : List Int) (w : World) (h : Ints w v gs) : Calls Tryd.prog 86 #[v] w fun e w' => e = .returned (.bool (isG 8 gs)) ∧ w = w' := by
  obtain ⟨a, cap, rfl⟩ := h.form
  have H := Lib.hid h
  have hlb := h.1
  obtain ⟨L, hL⟩ : ∃ L, gs.length = L := ⟨_, rfl⟩
  have HL := Lib.hid hL
  rw [hL] at H hlb ⊢
  clear h hL
  go_enter Tryd.func86, Tryd.ntmps86
  go_wp2
  go_loop [3, 8] (fun l i => ∃ (k : Nat) (lf : Int), k ≤ L ∧ i = .int .i64 k ∧ l = .int .i64 lf ∧ (0 ≤ lf ∧ lf ≤ 8) ∧ isG 8 gs = isG lf (gs.drop k)) (fun _ i => L - (intOf i).toNat)
  case atStart => exact ⟨0, 8, Nat.zero_le _, rfl, rfl, by omega, rfl⟩
  case round =>
    obtain ⟨k, lf, hk, rfl, rfl, hlf, hi⟩ := hrel
    have HI := Lib.hid hi; clear hi
    obtain ⟨hl0, hl8⟩ := hlf
    by_cases hlt : k < L
    · obtain ⟨x, hx⟩ : ∃ x, gs[k]? = some x := ⟨_, List.getElem?_eq_getElem (by rw [HL.out]; exact hlt)⟩
      obtain ⟨b, off, rfl, c0⟩ := H.out.cellAt hx
      have hd : gs.drop k = x :: gs.drop (k + 1) := by
        have e := (List.getElem?_eq_some_iff.1 hx).2
        rw [← e, List.getElem_cons_drop]
      have HD := Lib.hid hd
      clear hx hd
      by_cases g1 : x < 1
      · have HG := Lib.hid (show isG 8 gs = false by rw [HI.out, HD.out]; exact if_pos (.inl g1))
        have s1 : decide (x < 1) = true := decide_eq_true g1
        clear g1
        go_wp2
        go_ret
        exact ⟨by rw [HG.out]; rfl, rfl⟩
      have s1 : decide (x < 1) = false := decide_eq_false g1
      by_cases g2 : lf < x
      · have HG := Lib.hid (show isG 8 gs = false by rw [HI.out, HD.out]; exact if_pos (.inr g2))
        have s2 : decide (lf < x) = true := decide_eq_true g2
        clear g1 g2
        go_wp2
        go_ret
        exact ⟨by rw [HG.out]; rfl, rfl⟩
      have s2 : decide (lf < x) = false := decide_eq_false g2
      have HG := Lib.hid (show isG 8 gs = isG (lf - x) (gs.drop (k + 1)) by rw [HI.out, HD.out]; exact if_neg (by omega))
      have hx1 : 1 ≤ x := by omega
      have hx2 : x ≤ lf := by omega
      clear g1 g2
      go_wp2
      go_round
      case rel => exact ⟨k + 1, lf - x, by omega, by go_num, by go_num, by omega, HG.out⟩
      case measure => simp [intOf]; omega
    · obtain rfl : k = L := by omega
      have HG := Lib.hid (show isG 8 gs = decide (lf = 0) by rw [HI.out, List.drop_of_length_le (by rw [HL.out]; exact Nat.le_refl _)]; rfl)
      clear hlb
      go_wp2
      go_ret
      exact ⟨by rw [HG.out]; rfl, rfl⟩
theorem row_full {w : World} {base : Nat} {e : TypeId} {g n : Nat} {xs : List Value} (h : w.ownsRow base e 1 (.slice (some ⟨g, 0, none⟩) n n) n xs) : w.heap[g]? = some (.cells xs.toArray e (0, 0)) ∧ base ≤ g := by
  rcases h.2 with ⟨e, _⟩ | ⟨g', cap, cur, e, hb, hg, _, _, hs, ht⟩
  · cases e
  · cases e
    refine ⟨?_, hb⟩
    rw [hg, ← ht, List.take_of_length_le (by rw [Array.length_toList, hs]; exact Nat.le_refl _)]
theorem row_of_full {w : World} {base : Nat} {e : TypeId} {g n : Nat} {xs : List Value} (hn : xs.length = n) (hm : n ≤ maxLen) (hb : base ≤ g) (h : w.heap[g]? = some (.cells xs.toArray e (0, 0))) : w.ownsRow base e 1 (.slice (some ⟨g, 0, none⟩) n n) n xs :=
  ⟨by omega, .inr ⟨g, n, _, rfl, hb, h, Nat.le_refl _, hm, by simp [hn], by simp [← hn]⟩⟩
theorem full_ints {w : World} {g : Nat} {xs : List Int} (hl : xs.length ≤ 1000000) (h : w.heap[g]? = some (.cells (i64s xs).toArray 3 (0, 0))) : Ints w (.slice (some ⟨g, 0, none⟩) xs.length xs.length) xs :=
  Ints.ofRow (base := 0) (row_of_full (by simp [i64s]) (by unfold maxLen; omega) (Nat.zero_le _) h) (by omega)
/-- The widths lie in the program's variables. -/
def Gv (w : World) : Prop := (∀ j x, swL[j]? = some x → w.cell? ⟨0, j, none⟩ = some (.int .i64 x)) ∧ (∀ j x, lwL[j]? = some x → w.cell? ⟨1, j, none⟩ = some (.int .i64 x))
def dLn (s : Bool) : Int := if s then 16 else 128
/-- What divisionOf answers. -/
def DRes (w : World) (s : Bool) (gs : List Int) (e : Ending) (w' : World) : Prop :=
  if isD s gs then ∃ vw vg, e = .returned (.tuple #[.agg #[.int .i64 (dLn s), vw, vg], .int .i64 0]) ∧ Ints w' vw (dW s) ∧ Ints w' vg (dG s gs) ∧ Upd NoB w w'
  else e = .returned (.tuple #[.agg #[.int .i64 0, .slice none 0 0, .slice none 0 0], .int .i64 1]) ∧ Upd NoB w w'
set_option maxRecDepth 100000 in
set_option maxHeartbeats 1000000 in
theorem count_any (v1 : Value) (aw ag : Option Addr) (n m cw cg : Nat) (w : World) (hn : n ≤ 1000) (hm : m ≤ 1000) : Calls Tryd.prog 54 #[.agg #[v1, .slice aw n cw, .slice ag m cg]] w fun e w' => e = .returned (.int .i64 ((m : Int) * (n : Int))) ∧ Upd NoB w w' := by
  obtain ⟨q, hq⟩ : ∃ q, m * n = q := ⟨_, rfl⟩
  have hqb : q ≤ 1000 * 1000 := by rw [← hq]; exact Nat.mul_le_mul hm hn
  have hmn : (m : Int) * (n : Int) = (q : Int) := by rw [← hq, Int.natCast_mul]
  have hw1 : wrap64 ((m : Int) * (n : Int)) = (q : Int) := by rw [hmn]; exact IntWalk.wrap64_in _ (by omega)
  have hw2 : IntKind.i64.wrap ((m : Int) * (n : Int)) = (q : Int) := by rw [hmn]; exact IntWalk.i64_in _ (by omega)
  have HQ := Lib.hid hmn
  clear hq hqb hmn
  rw [HQ.out]
  go_enter Tryd.func54, Tryd.ntmps54
  go_wp2_with fail
  go_ret
  exact ⟨rfl, (Upd.refl _ _).alloc _⟩
theorem Gv.later {w w' : World} (h : Gv w) (u : Upd NoB w w') : Gv w' := ⟨fun j x hx => u.cell (h.1 j x hx) (noB _), fun j x hx => u.cell (h.2 j x hx) (noB _)⟩
theorem Ints.ofBlock {w : World} {g : Nat} {t : TypeId} {xs : List Int} (hl : xs.length ≤ 1000000) (h : w.heap[g]? = some (.cells (i64s xs).toArray t (0, 0))) : Ints w (.slice (some ⟨g, 0, none⟩) xs.length xs.length) xs :=
  ⟨by omega, _, _, rfl, ⟨Nat.le_refl _, fun e => by cases e⟩, .inr ⟨g, 0, rfl, fun j x hx => by rw [Nat.zero_add, blk_cell h j, List.getElem?_toArray, i64s_get, hx]; rfl⟩⟩
theorem boxes3 (W : World) (o0 o1 o2 : Obj) : (((W.alloc o0).alloc o1).alloc o2).heap[W.heap.size]? = some o0 ∧ (((W.alloc o0).alloc o1).alloc o2).heap[W.heap.size + 1]? = some o1 ∧
    (((W.alloc o0).alloc o1).alloc o2).heap[W.heap.size + 1 + 1]? = some o2 ∧ Upd NoB W (((W.alloc o0).alloc o1).alloc o2) := by
  have s1 : (W.alloc o0).heap.size = W.heap.size + 1 := by simp
  have s2 : ((W.alloc o0).alloc o1).heap.size = W.heap.size + 2 := by simp
  have h1 := heap_alloc_new (W.alloc o0) o1
  have h2 := heap_alloc_new ((W.alloc o0).alloc o1) o2
  rw [s1] at h1
  rw [s2] at h2
  exact ⟨(Below.heap_alloc _ _ _ (by omega)).trans ((Below.heap_alloc _ _ _ (by omega)).trans (heap_alloc_new W _)), (Below.heap_alloc _ _ _ (by omega)).trans h1, h2, (((Upd.refl _ _).alloc _).alloc _).alloc _⟩
theorem upd_three {W V : World} {g : Nat} (u : Upd NoB W V) (x y z : Value) : Upd (fun k => k = g) W (((V.setCell ⟨g, 0, none⟩ x).setCell ⟨g, 1, none⟩ y).setCell ⟨g, 2, none⟩ z) :=
  (((u.mono (T := fun k => k = g) (fun _ _ h => h.elim)).setCell x (fun _ => rfl)).setCell y (fun _ => rfl)).setCell z (fun _ => rfl)
theorem upd_into {w W V : World} (u : Upd NoB w W) (h : Upd (fun k => k = w.heap.size) W V) : Upd NoB w V :=
  ⟨h.os.trans u.os, h.tape.trans u.tape, h.output.trans u.output, Nat.le_trans u.size h.size, fun k hk _ => (h.block k (Nat.lt_of_lt_of_le hk u.size) (fun e => by omega)).trans (u.block k hk (noB k))⟩
theorem set3_heap {w : World} {g : Nat} {p q r x y z : Value} {t : TypeId} (h : w.heap[g]? = some (.cells #[p, q, r] t)) : (((w.setCell ⟨g, 0, none⟩ x).setCell ⟨g, 1, none⟩ y).setCell ⟨g, 2, none⟩ z).heap[g]? = some (.cells #[x, y, z] t) :=
  block_set (block_set (block_set h x) y) z
theorem div_size : (Tryd.prog.info? 52).map (·.size) = some 3 := by kernel_rfl
theorem ret_div {fn : Func} {p u : Tmp} (h : fn.results = #[.cell p 52, .tmp u]) (tmps : Array Value) (w : World) (g : Nat) (x y z : Value)
    (hp : tmps.getD p undef = .pointer (some ⟨g, 0, none⟩)) (hg : w.heap[g]? = some (.cells #[x, y, z] 52)) :
    (results fn tmps).run Tryd.prog w = .ok (.tuple #[.agg #[x, y, z], tmps.getD u undef]) w := by
  rw [results_cell_tmp h, hp]
  simp [asAddr, run_loadVar_row w g 52 52 #[x, y, z] (0, 0) _ hg Tryd.underlying52 rfl (by rw [div_size]; rfl), Result.andThen]
theorem upd_set3 {w w' : World} (h : Upd NoB w w') {g : Nat} (hg : w.heap.size ≤ g) (x y z : Value) : Upd NoB w (((w'.setCell ⟨g, 0, none⟩ x).setCell ⟨g, 1, none⟩ y).setCell ⟨g, 2, none⟩ z) :=
  ((h.setCell x (fun h => by exfalso; have h : g < w.heap.size := h; omega)).setCell y (fun h => by exfalso; have h : g < w.heap.size := h; omega)).setCell z (fun h => by exfalso; have h : g < w.heap.size := h; omega)
/-- What divisionOf answers, and where it lies. -/
def DRes2 (w : World) (s : Bool) (v : Value) (gs : List Int) (e : Ending) (w' : World) : Prop :=
  if isD s gs then ∃ vw vg, e = .returned (.tuple #[.agg #[.int .i64 (dLn s), vw, vg], .int .i64 0]) ∧ Ints w' vw (dW s) ∧ Ints w' vg (dG s gs) ∧ Upd NoB w w' ∧ (∀ k, vw.ownBlock = some k → w.heap.size ≤ k) ∧ ((vg = v ∧ dG s gs = gs) ∨ ∀ k, vg.ownBlock = some k → w.heap.size ≤ k)
  else e = .returned (.tuple #[.agg #[.int .i64 0, .slice none 0 0, .slice none 0 0], .int .i64 1]) ∧ Upd NoB w w'
theorem ownAt {g n c b : Nat} (h : b ≤ g) : ∀ k, (Value.slice (some ⟨g, 0, none⟩) n c).ownBlock = some k → b ≤ k := by
  intro k hk
  have : g = k := by simpa [Value.ownBlock] using hk
  omega
set_option maxRecDepth 100000 in
set_option maxHeartbeats 2000000 in
theorem divisionOf2_any (s : Bool) (v : Value) (gs : List Int) (w : World) (h : Ints w v gs) (hg : Gv w) : Calls Tryd.prog 50 #[.bool s, v] w (DRes2 w s v gs) := by
  obtain ⟨a, cap, rfl⟩ := h.form
  have H := Lib.hid h
  obtain ⟨W, hW⟩ : ∃ W, W = w.alloc (.cells #[.int .i64 0, .slice none 0 0, .slice none 0 0] 52) := ⟨_, rfl⟩
  have u0 : Upd NoB w W := by rw [hW]; exact (Upd.refl _ _).alloc _
  have bw : W.heap[w.heap.size]? = some (.cells #[.int .i64 0, .slice none 0 0, .slice none 0 0] 52 (0, 0)) := by rw [hW]; exact heap_alloc_new w _
  have hgW := hg.later u0
  have HA := Lib.hid (areGroups_any _ gs W (h.later u0))
  have HX := Lib.hid (h.later u0)
  have HG := Lib.hid hgW
  have HB := Lib.hid bw; have HW := Lib.hid hW; have U0 := Lib.hid u0
  obtain ⟨L, hL⟩ : ∃ L, gs.length = L := ⟨_, rfl⟩
  have HL := Lib.hid hL
  rw [hL] at HA H HX ⊢
  have e0 : W.cell? ⟨w.heap.size, 0, none⟩ = some (.int .i64 0) := blk_cell bw 0
  have e1 : W.cell? ⟨w.heap.size, 1, none⟩ = some (.slice none 0 0) := blk_cell bw 1
  have e2 : W.cell? ⟨w.heap.size, 2, none⟩ = some (.slice none 0 0) := blk_cell bw 2
  have f0 := blk_free bw 0
  have f1 := blk_free bw 1
  have f2 := blk_free bw 2
  clear h hL hg hW u0 bw hgW
  cases s with
  | true =>
    cases hG : isG 8 gs with
    | true =>
      rw [hG] at HA
      have HGt := Lib.hid hG
      clear hG
      have c0 : W.cell? ⟨0, 0, none⟩ = some (.int .i64 2) := HG.out.1 0 _ rfl
      have c1 : W.cell? ⟨0, 1, none⟩ = some (.int .i64 2) := HG.out.1 1 _ rfl
      have c2 : W.cell? ⟨0, 2, none⟩ = some (.int .i64 4) := HG.out.1 2 _ rfl
      have c3 : W.cell? ⟨0, 3, none⟩ = some (.int .i64 8) := HG.out.1 3 _ rfl
      go_enter Tryd.func50, Tryd.ntmps50
      go_wp2_with fail
      rw [← HW.out]
      refine HA.out.mono ?_
      rintro e w' ⟨rfl, rfl⟩
      have uq : Upd NoB W (W.alloc (.cells #[.int .i64 2, .int .i64 2, .int .i64 4, .int .i64 8] 88)) := (Upd.refl _ _).alloc _
      have HQ := Lib.hid (uq.heap HB.out (noB _))
      have k0 := uq.cell e0 (noB _)
      have k1 := uq.cell e1 (noB _)
      have k2 := uq.cell e2 (noB _)
      have z0 := blk_free HQ.out 0
      have z1 := blk_free HQ.out 1
      have z2 := blk_free HQ.out 2
      have UQ := Lib.hid uq
      clear uq
      go_wp2_with fail
      refine bodyPost_ret (ret_div rfl _ _ w.heap.size _ _ _ rfl (set3_heap HQ.out)) rfl ?_
      have hu := upd_three (g := w.heap.size) UQ.out (.int .i64 16) (.slice (some ⟨W.heap.size, 0, none⟩) 4 4) (.slice a L cap)
      have hw := upd_three (g := w.heap.size) (Upd.refl NoB (W.alloc (.cells #[.int .i64 2, .int .i64 2, .int .i64 4, .int .i64 8] 88))) (.int .i64 16) (.slice (some ⟨W.heap.size, 0, none⟩) 4 4) (.slice a L cap)
      have hne : W.heap.size ≠ w.heap.size := by have := lt_of_block HB.out; omega
      unfold DRes2
      rw [if_pos (show isD true gs = true from HGt.out)]
      refine ⟨_, _, rfl, Ints.ofBlock (xs := swL) (by decide) (hw.heap (heap_alloc_new W _) hne), HX.out.upd hu (fun hne2 k hk e => ?_), upd_into U0.out hu, ownAt U0.out.size, .inl ⟨rfl, rfl⟩⟩
      have := H.out.lt hne2 k hk
      have e' : k = w.heap.size := e
      omega
    | false =>
      rw [hG] at HA
      have HGt := Lib.hid hG
      clear hG
      go_enter Tryd.func50, Tryd.ntmps50
      go_wp2_with fail
      rw [← HW.out]
      refine HA.out.mono ?_
      rintro e w' ⟨rfl, rfl⟩
      go_wp2_with fail
      refine bodyPost_ret (ret_div rfl _ _ w.heap.size _ _ _ rfl (set3_heap HB.out)) rfl ?_
      unfold DRes2
      rw [if_neg (show ¬ isD true gs = true by show ¬ isG 8 gs = true; rw [HGt.out]; simp)]
      exact ⟨rfl, upd_into U0.out (upd_three (Upd.refl _ _) _ _ _)⟩
  | false =>
    by_cases hz : L = 0
    · have hnil : gs = [] := List.eq_nil_of_length_eq_zero (by rw [HL.out, hz])
      have HNil := Lib.hid hnil
      have t1 : decide ((L : Int) = 0) = true := decide_eq_true (by omega)
      have t1n : decide (L = 0) = true := decide_eq_true hz
      have t1b : ((L : Int) == 0) = true := by rw [beq_iff_eq]; omega
      clear hnil hz
      have c : ∀ j x, lwL[j]? = some x → (w.alloc (.cells #[.int .i64 0, .slice none 0 0, .slice none 0 0] 52)).cell? ⟨1, j, none⟩ = some (.int .i64 x) := fun j x hx => by rw [← HW.out]; exact HG.out.2 j x hx
      have c0 := c 0 _ rfl
      have c1 := c 1 _ rfl
      have c2 := c 2 _ rfl
      have c3 := c 3 _ rfl
      have c4 := c 4 _ rfl
      have c5 := c 5 _ rfl
      have c6 := c 6 _ rfl
      have c7 := c 7 _ rfl
      have c8 := c 8 _ rfl
      have c9 := c 9 _ rfl
      have c10 := c 10 _ rfl
      have c11 := c 11 _ rfl
      have c12 := c 12 _ rfl
      have c13 := c 13 _ rfl
      have c14 := c 14 _ rfl
      clear c
      go_enter Tryd.func50, Tryd.ntmps50
      go_wp2_with fail
      refine bodyPost_ret (ret_div rfl _ _ w.heap.size _ _ _ rfl (boxes3 w _ _ _).1) rfl ?_
      unfold DRes2
      rw [if_pos (show isD false gs = true by rw [HNil.out]; rfl)]
      exact ⟨_, _, rfl, Ints.ofBlock (xs := lwL) (by decide) (boxes3 w _ _ _).2.1, Ints.ofBlock (xs := [1]) (by decide) (boxes3 w _ _ _).2.2.1, (boxes3 w _ _ _).2.2.2, ownAt (by omega), .inr (ownAt (by omega))⟩
    · have t1 : decide ((L : Int) = 0) = false := decide_eq_false (by omega)
      have t1n : decide (L = 0) = false := decide_eq_false hz
      have t1b : ((L : Int) == 0) = false := by rw [beq_eq_false_iff_ne]; omega
      have HNe := Lib.hid (show isD false gs = false by
        show gs.isEmpty = false
        cases gs with
        | nil => exact absurd HL.out.symm hz
        | cons x t => rfl)
      clear hz
      go_enter Tryd.func50, Tryd.ntmps50
      go_wp2_with fail
      refine bodyPost_ret (ret_div rfl _ _ w.heap.size _ _ _ rfl (heap_alloc_new w _)) rfl ?_
      unfold DRes2
      rw [if_neg (show ¬ isD false gs = true by rw [HNe.out]; simp)]
      exact ⟨rfl, (Upd.refl _ _).alloc _⟩
theorem divisionOf_any (s : Bool) (v : Value) (gs : List Int) (w : World) (h : Ints w v gs) (hg : Gv w) : Calls Tryd.prog 50 #[.bool s, v] w (DRes w s gs) := by
  refine (divisionOf2_any s v gs w h hg).mono ?_
  intro e w' hr
  unfold DRes2 at hr
  unfold DRes
  by_cases hd : isD s gs = true
  · rw [if_pos hd] at hr ⊢
    obtain ⟨vw, vg, h1, h2, h3, h4, _⟩ := hr
    exact ⟨vw, vg, h1, h2, h3, h4⟩
  · rw [if_neg hd] at hr ⊢
    exact hr
end Go.Proofs.YtaplmdkjoijcgaaDoor
