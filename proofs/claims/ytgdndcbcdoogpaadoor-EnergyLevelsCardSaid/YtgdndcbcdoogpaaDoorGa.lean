/- bands: divisions in mathematics | bands: areGroups, and the division | bands: the widths of all bands | bands: Widths and Count of the program; Is of the reference -/
import Derived.Test.YtgdndcbcdoogpaaDoorInt
import Derived.Laws.ResultCell
import Derived.Laws.Rows
import Derived.Deep.AppendLies
namespace Go.Proofs.YtgdndcbcdoogpaaDoor
open Go.RowKit Go.Shelf

/-- the widths of the bands of a long frame, and of a short block -/
def lwL : List Int := [4, 4, 4, 4, 4, 4, 4, 8, 8, 8, 12, 12, 16, 16, 20]
def swL : List Int := [2, 2, 4, 8]
/-- are these groups, where so many blocks are left? -/
def isG (l : Int) : List Int → Bool
  | [] => decide (l = 0)
  | b :: t => if b < 1 ∨ l < b then false else isG (l - b) t
theorem sum_ge : ∀ {gs : List Int}, (∀ b ∈ gs, 1 ≤ b) → (gs.length : Int) ≤ gs.sum
  | [], _ => by simp
  | b :: t, h => by
    have ih := sum_ge (gs := t) (fun x hx => h x (List.mem_cons_of_mem _ hx))
    have := h b (List.mem_cons_self ..)
    rw [List.length_cons, List.sum_cons]; omega
theorem isG_iff : ∀ {gs : List Int} {l : Int}, isG l gs = true ↔ (∀ b ∈ gs, 1 ≤ b) ∧ gs.sum = l
  | [], l => by simp [isG]; omega
  | b :: t, l => by
    unfold isG
    by_cases h : b < 1 ∨ l < b
    · rw [if_pos h]
      constructor
      · intro e; cases e
      · rintro ⟨h1, h2⟩
        have hb := h1 b (List.mem_cons_self ..)
        have hs := sum_ge (gs := t) (fun x hx => h1 x (List.mem_cons_of_mem _ hx))
        rw [List.sum_cons] at h2
        omega
    · rw [if_neg h, isG_iff]
      constructor
      · rintro ⟨h1, h2⟩
        refine ⟨fun x hx => ?_, by rw [List.sum_cons]; omega⟩
        rcases List.mem_cons.1 hx with rfl | hx
        · omega
        · exact h1 x hx
      · rintro ⟨h1, h2⟩
        rw [List.sum_cons] at h2
        exact ⟨fun x hx => h1 x (List.mem_cons_of_mem _ hx), by omega⟩
theorem sum_mem_le : ∀ {gs : List Int}, (∀ b ∈ gs, 1 ≤ b) → ∀ x ∈ gs, x ≤ gs.sum
  | [], _, x, hx => by cases hx
  | b :: t, h, x, hx => by
    have ht : ∀ y ∈ t, 1 ≤ y := fun y hy => h y (List.mem_cons_of_mem _ hy)
    have hs := sum_ge ht
    have hb := h b (List.mem_cons_self ..)
    rw [List.sum_cons]
    rcases List.mem_cons.1 hx with rfl | hx
    · omega
    · have := sum_mem_le ht x hx; omega
theorem isG_bd {gs : List Int} (h : isG 8 gs = true) : gs.length ≤ 8 ∧ ∀ b ∈ gs, 1 ≤ b ∧ b ≤ 8 := by
  obtain ⟨h1, h2⟩ := isG_iff.1 h
  have h3 := sum_ge h1
  exact ⟨by omega, fun b hb => ⟨h1 b hb, by have := sum_mem_le h1 b hb; omega⟩⟩
/-- what is left after the first k groups -/
theorem isG_take {gs : List Int} {l : Int} {k : Nat} (h : isG l gs = true) : isG (l - (gs.take k).sum) (gs.drop k) = true := by
  obtain ⟨h1, h2⟩ := isG_iff.1 h
  refine isG_iff.2 ⟨fun b hb => h1 b (List.mem_of_mem_drop hb), ?_⟩
  have : gs.sum = (gs.take k).sum + (gs.drop k).sum := by rw [← List.sum_append, List.take_append_drop]
  omega
def isD (s : Bool) (gs : List Int) : Bool := if s then isG 8 gs else gs.isEmpty
/-- the widths of all bands -/
def bwL (ws gs : List Int) : List Int := gs.flatMap fun n => ws.map fun w => n * w
def dW (s : Bool) : List Int := if s then swL else lwL
def dG (s : Bool) (gs : List Int) : List Int := if s then gs else [1]
def bandsL (s : Bool) (gs : List Int) : List Int := bwL (dW s) (dG s gs)
theorem bandsL_long (gs : List Int) : bandsL false gs = lwL := by unfold bandsL bwL dW dG; rfl
/-- where parts with these widths are -/
def spT (ws : List Int) (k : Nat) : Int := (ws.take k).sum
theorem spT_succ {ws : List Int} {k : Nat} {x : Int} (h : ws[k]? = some x) : spT ws (k + 1) = spT ws k + x := by
  unfold spT; rw [List.take_add_one, List.sum_append, h]; simp
end Go.Proofs.YtgdndcbcdoogpaaDoor

namespace Go.Proofs.YtgdndcbcdoogpaaDoor
open Go.RowKit Go.Shelf

theorem Ints.cellAt {w : World} {a : Option Addr} {n cap : Nat} {xs : List Int} (h : Ints w (.slice a n cap) xs) {k : Nat} {x : Int} (hx : xs[k]? = some x) : ∃ b off, a = some ⟨b, off, none⟩ ∧ w.cell? ⟨b, off + k, none⟩ = some (.int .i64 x) := by
  obtain ⟨_, a', cap', e, _, h3⟩ := h
  injection e with e1 e2 e3
  subst e1
  rcases h3 with h3 | ⟨b, off, rfl, h3⟩
  · subst h3; simp at hx
  · exact ⟨b, off, rfl, h3 k x hx⟩
set_option maxRecDepth 100000 in
set_option maxHeartbeats 1000000 in
theorem areGroups_any (v : Value) (gs : List Int) (w : World) (h : Ints w v gs) : Calls Tryd.prog 86 #[v] w fun e w' => e = .returned (.bool (isG 8 gs)) ∧ w = w' := by
  obtain ⟨a, cap, rfl⟩ := h.form
  have H := Lib.hid h
  have hlb := h.1
  obtain ⟨L, hL⟩ : ∃ L, gs.length = L := ⟨_, rfl⟩
  have HL := Lib.hid hL
  rw [hL] at H hlb ⊢
  clear h hL
  go_enter Tryd.func86, Tryd.ntmps86
  go_wp2
  go_loop [3, 8] (fun l i => ∃ (k : Nat) (lf : Int), k ≤ L ∧ i = .int .i64 k ∧ l = .int .i64 lf ∧ (0 ≤ lf ∧ lf ≤ 8) ∧ isG 8 gs = isG lf (gs.drop k)) (fun _ i => L - (intOf i).toNat)
  case atStart => exact ⟨0, 8, Nat.zero_le _, rfl, rfl, by omega, rfl⟩
  case round =>
    obtain ⟨k, lf, hk, rfl, rfl, hlf, hi⟩ := hrel
    have HI := Lib.hid hi; clear hi
    obtain ⟨hl0, hl8⟩ := hlf
    by_cases hlt : k < L
    · obtain ⟨x, hx⟩ : ∃ x, gs[k]? = some x := ⟨_, List.getElem?_eq_getElem (by rw [HL.out]; exact hlt)⟩
      obtain ⟨b, off, rfl, c0⟩ := H.out.cellAt hx
      have hd : gs.drop k = x :: gs.drop (k + 1) := by
        have e := (List.getElem?_eq_some_iff.1 hx).2
        rw [← e, List.getElem_cons_drop]
      have HD := Lib.hid hd
      clear hx hd
      by_cases g1 : x < 1
      · have HG := Lib.hid (show isG 8 gs = false by rw [HI.out, HD.out]; exact if_pos (.inl g1))
        have s1 : decide (x < 1) = true := decide_eq_true g1
        clear g1
        go_wp2
        go_ret
        exact ⟨by rw [HG.out]; rfl, rfl⟩
      have s1 : decide (x < 1) = false := decide_eq_false g1
      by_cases g2 : lf < x
      · have HG := Lib.hid (show isG 8 gs = false by rw [HI.out, HD.out]; exact if_pos (.inr g2))
        have s2 : decide (lf < x) = true := decide_eq_true g2
        clear g1 g2
        go_wp2
        go_ret
        exact ⟨by rw [HG.out]; rfl, rfl⟩
      have s2 : decide (lf < x) = false := decide_eq_false g2
      have HG := Lib.hid (show isG 8 gs = isG (lf - x) (gs.drop (k + 1)) by rw [HI.out, HD.out]; exact if_neg (by omega))
      have hx1 : 1 ≤ x := by omega
      have hx2 : x ≤ lf := by omega
      clear g1 g2
      go_wp2
      go_round
      case rel => exact ⟨k + 1, lf - x, by omega, by go_num, by go_num, by omega, HG.out⟩
      case measure => simp [intOf]; omega
    · obtain rfl : k = L := by omega
      have HG := Lib.hid (show isG 8 gs = decide (lf = 0) by rw [HI.out, List.drop_of_length_le (by rw [HL.out]; exact Nat.le_refl _)]; rfl)
      clear hlb
      go_wp2
      go_ret
      exact ⟨by rw [HG.out]; rfl, rfl⟩
theorem row_full {w : World} {base : Nat} {e : TypeId} {g n : Nat} {xs : List Value} (h : w.ownsRow base e 1 (.slice (some ⟨g, 0, none⟩) n n) n xs) : w.heap[g]? = some (.cells xs.toArray e (0, 0)) ∧ base ≤ g := by
  rcases h.2 with ⟨e, _⟩ | ⟨g', cap, cur, e, hb, hg, _, _, hs, ht⟩
  · cases e
  · cases e
    refine ⟨?_, hb⟩
    rw [hg, ← ht, List.take_of_length_le (by rw [Array.length_toList, hs]; exact Nat.le_refl _)]
theorem row_of_full {w : World} {base : Nat} {e : TypeId} {g n : Nat} {xs : List Value} (hn : xs.length = n) (hm : n ≤ maxLen) (hb : base ≤ g) (h : w.heap[g]? = some (.cells xs.toArray e (0, 0))) : w.ownsRow base e 1 (.slice (some ⟨g, 0, none⟩) n n) n xs :=
  ⟨by omega, .inr ⟨g, n, _, rfl, hb, h, Nat.le_refl _, hm, by simp [hn], by simp [← hn]⟩⟩
theorem full_ints {w : World} {g : Nat} {xs : List Int} (hl : xs.length ≤ 1000000) (h : w.heap[g]? = some (.cells (i64s xs).toArray 3 (0, 0))) : Ints w (.slice (some ⟨g, 0, none⟩) xs.length xs.length) xs :=
  Ints.ofRow (base := 0) (row_of_full (by simp [i64s]) (by unfold maxLen; omega) (Nat.zero_le _) h) (by omega)
/-- The widths lie in the program's variables. -/
def Gv (w : World) : Prop := (∀ j x, swL[j]? = some x → w.cell? ⟨0, j, none⟩ = some (.int .i64 x)) ∧ (∀ j x, lwL[j]? = some x → w.cell? ⟨1, j, none⟩ = some (.int .i64 x))
def dLn (s : Bool) : Int := if s then 16 else 128
/-- What divisionOf answers. -/
def DRes (w : World) (s : Bool) (gs : List Int) (e : Ending) (w' : World) : Prop :=
  if isD s gs then ∃ vw vg, e = .returned (.tuple #[.agg #[.int .i64 (dLn s), vw, vg], .int .i64 0]) ∧ Ints w' vw (dW s) ∧ Ints w' vg (dG s gs) ∧ Upd NoB w w'
  else e = .returned (.tuple #[.agg #[.int .i64 0, .slice none 0 0, .slice none 0 0], .int .i64 1]) ∧ Upd NoB w w'
set_option maxRecDepth 100000 in
set_option maxHeartbeats 1000000 in
theorem count_any (v1 : Value) (aw ag : Option Addr) (n m cw cg : Nat) (w : World) (hn : n ≤ 1000) (hm : m ≤ 1000) : Calls Tryd.prog 54 #[.agg #[v1, .slice aw n cw, .slice ag m cg]] w fun e w' => e = .returned (.int .i64 ((m : Int) * (n : Int))) ∧ Upd NoB w w' := by
  obtain ⟨q, hq⟩ : ∃ q, m * n = q := ⟨_, rfl⟩
  have hqb : q ≤ 1000 * 1000 := by rw [← hq]; exact Nat.mul_le_mul hm hn
  have hmn : (m : Int) * (n : Int) = (q : Int) := by rw [← hq, Int.natCast_mul]
  have hw1 : wrap64 ((m : Int) * (n : Int)) = (q : Int) := by rw [hmn]; exact IntWalk.wrap64_in _ (by omega)
  have hw2 : IntKind.i64.wrap ((m : Int) * (n : Int)) = (q : Int) := by rw [hmn]; exact IntWalk.i64_in _ (by omega)
  have HQ := Lib.hid hmn
  clear hq hqb hmn
  rw [HQ.out]
  go_enter Tryd.func54, Tryd.ntmps54
  go_wp2_with fail
  go_ret
  exact ⟨rfl, (Upd.refl _ _).alloc _⟩
theorem Gv.later {w w' : World} (h : Gv w) (u : Upd NoB w w') : Gv w' := ⟨fun j x hx => u.cell (h.1 j x hx) (noB _), fun j x hx => u.cell (h.2 j x hx) (noB _)⟩
theorem Ints.ofBlock {w : World} {g : Nat} {t : TypeId} {xs : List Int} (hl : xs.length ≤ 1000000) (h : w.heap[g]? = some (.cells (i64s xs).toArray t (0, 0))) : Ints w (.slice (some ⟨g, 0, none⟩) xs.length xs.length) xs :=
  ⟨by omega, _, _, rfl, ⟨Nat.le_refl _, fun e => by cases e⟩, .inr ⟨g, 0, rfl, fun j x hx => by rw [Nat.zero_add, blk_cell h j, List.getElem?_toArray, i64s_get, hx]; rfl⟩⟩
theorem boxes3 (W : World) (o0 o1 o2 : Obj) : (((W.alloc o0).alloc o1).alloc o2).heap[W.heap.size]? = some o0 ∧ (((W.alloc o0).alloc o1).alloc o2).heap[W.heap.size + 1]? = some o1 ∧
    (((W.alloc o0).alloc o1).alloc o2).heap[W.heap.size + 1 + 1]? = some o2 ∧ Upd NoB W (((W.alloc o0).alloc o1).alloc o2) := by
  have s1 : (W.alloc o0).heap.size = W.heap.size + 1 := by simp
  have s2 : ((W.alloc o0).alloc o1).heap.size = W.heap.size + 2 := by simp
  have h1 := heap_alloc_new (W.alloc o0) o1
  have h2 := heap_alloc_new ((W.alloc o0).alloc o1) o2
  rw [s1] at h1
  rw [s2] at h2
  exact ⟨(Below.heap_alloc _ _ _ (by omega)).trans ((Below.heap_alloc _ _ _ (by omega)).trans (heap_alloc_new W _)), (Below.heap_alloc _ _ _ (by omega)).trans h1, h2, (((Upd.refl _ _).alloc _).alloc _).alloc _⟩
theorem upd_three {W V : World} {g : Nat} (u : Upd NoB W V) (x y z : Value) : Upd (fun k => k = g) W (((V.setCell ⟨g, 0, none⟩ x).setCell ⟨g, 1, none⟩ y).setCell ⟨g, 2, none⟩ z) :=
  (((u.mono (T := fun k => k = g) (fun _ _ h => h.elim)).setCell x (fun _ => rfl)).setCell y (fun _ => rfl)).setCell z (fun _ => rfl)
theorem upd_into {w W V : World} (u : Upd NoB w W) (h : Upd (fun k => k = w.heap.size) W V) : Upd NoB w V :=
  ⟨h.os.trans u.os, h.tape.trans u.tape, h.output.trans u.output, Nat.le_trans u.size h.size, fun k hk _ => (h.block k (Nat.lt_of_lt_of_le hk u.size) (fun e => by omega)).trans (u.block k hk (noB k))⟩
theorem set3_heap {w : World} {g : Nat} {p q r x y z : Value} {t : TypeId} (h : w.heap[g]? = some (.cells #[p, q, r] t)) : (((w.setCell ⟨g, 0, none⟩ x).setCell ⟨g, 1, none⟩ y).setCell ⟨g, 2, none⟩ z).heap[g]? = some (.cells #[x, y, z] t) :=
  block_set (block_set (block_set h x) y) z
theorem div_size : (Tryd.prog.info? 52).map (·.size) = some 3 := by kernel_rfl
theorem ret_div {fn : Func} {p u : Tmp} (h : fn.results = #[.cell p 52, .tmp u]) (tmps : Array Value) (w : World) (g : Nat) (x y z : Value)
    (hp : tmps.getD p undef = .pointer (some ⟨g, 0, none⟩)) (hg : w.heap[g]? = some (.cells #[x, y, z] 52)) :
    (results fn tmps).run Tryd.prog w = .ok (.tuple #[.agg #[x, y, z], tmps.getD u undef]) w := by
  rw [results_cell_tmp h, hp]
  simp [asAddr, run_loadVar_row w g 52 52 #[x, y, z] (0, 0) _ hg Tryd.underlying52 rfl (by rw [div_size]; rfl), Result.andThen]
theorem upd_set3 {w w' : World} (h : Upd NoB w w') {g : Nat} (hg : w.heap.size ≤ g) (x y z : Value) : Upd NoB w (((w'.setCell ⟨g, 0, none⟩ x).setCell ⟨g, 1, none⟩ y).setCell ⟨g, 2, none⟩ z) :=
  ((h.setCell x (fun h => by exfalso; have h : g < w.heap.size := h; omega)).setCell y (fun h => by exfalso; have h : g < w.heap.size := h; omega)).setCell z (fun h => by exfalso; have h : g < w.heap.size := h; omega)
/-- What divisionOf answers, and where it lies. -/
def DRes2 (w : World) (s : Bool) (v : Value) (gs : List Int) (e : Ending) (w' : World) : Prop :=
  if isD s gs then ∃ vw vg, e = .returned (.tuple #[.agg #[.int .i64 (dLn s), vw, vg], .int .i64 0]) ∧ Ints w' vw (dW s) ∧ Ints w' vg (dG s gs) ∧ Upd NoB w w' ∧ (∀ k, vw.ownBlock = some k → w.heap.size ≤ k) ∧ ((vg = v ∧ dG s gs = gs) ∨ ∀ k, vg.ownBlock = some k → w.heap.size ≤ k)
  else e = .returned (.tuple #[.agg #[.int .i64 0, .slice none 0 0, .slice none 0 0], .int .i64 1]) ∧ Upd NoB w w'
theorem ownAt {g n c b : Nat} (h : b ≤ g) : ∀ k, (Value.slice (some ⟨g, 0, none⟩) n c).ownBlock = some k → b ≤ k := by
  intro k hk
  have : g = k := by simpa [Value.ownBlock] using hk
  omega
set_option maxRecDepth 100000 in
set_option maxHeartbeats 2000000 in
theorem divisionOf2_any (s : Bool) (v : Value) (gs : List Int) (w : World) (h : Ints w v gs) (hg : Gv w) : Calls Tryd.prog 50 #[.bool s, v] w (DRes2 w s v gs) := by
  obtain ⟨a, cap, rfl⟩ := h.form
  have H := Lib.hid h
  obtain ⟨W, hW⟩ : ∃ W, W = w.alloc (.cells #[.int .i64 0, .slice none 0 0, .slice none 0 0] 52) := ⟨_, rfl⟩
  have u0 : Upd NoB w W := by rw [hW]; exact (Upd.refl _ _).alloc _
  have bw : W.heap[w.heap.size]? = some (.cells #[.int .i64 0, .slice none 0 0, .slice none 0 0] 52 (0, 0)) := by rw [hW]; exact heap_alloc_new w _
  have hgW := hg.later u0
  have HA := Lib.hid (areGroups_any _ gs W (h.later u0))
  have HX := Lib.hid (h.later u0)
  have HG := Lib.hid hgW
  have HB := Lib.hid bw; have HW := Lib.hid hW; have U0 := Lib.hid u0
  obtain ⟨L, hL⟩ : ∃ L, gs.length = L := ⟨_, rfl⟩
  have HL := Lib.hid hL
  rw [hL] at HA H HX ⊢
  have e0 : W.cell? ⟨w.heap.size, 0, none⟩ = some (.int .i64 0) := blk_cell bw 0
  have e1 : W.cell? ⟨w.heap.size, 1, none⟩ = some (.slice none 0 0) := blk_cell bw 1
  have e2 : W.cell? ⟨w.heap.size, 2, none⟩ = some (.slice none 0 0) := blk_cell bw 2
  have f0 := blk_free bw 0
  have f1 := blk_free bw 1
  have f2 := blk_free bw 2
  clear h hL hg hW u0 bw hgW
  cases s with
  | true =>
    cases hG : isG 8 gs with
    | true =>
      rw [hG] at HA
      have HGt := Lib.hid hG
      clear hG
      have c0 : W.cell? ⟨0, 0, none⟩ = some (.int .i64 2) := HG.out.1 0 _ rfl
      have c1 : W.cell? ⟨0, 1, none⟩ = some (.int .i64 2) := HG.out.1 1 _ rfl
      have c2 : W.cell? ⟨0, 2, none⟩ = some (.int .i64 4) := HG.out.1 2 _ rfl
      have c3 : W.cell? ⟨0, 3, none⟩ = some (.int .i64 8) := HG.out.1 3 _ rfl
      go_enter Tryd.func50, Tryd.ntmps50
      go_wp2_with fail
      rw [← HW.out]
      refine HA.out.mono ?_
      rintro e w' ⟨rfl, rfl⟩
      have uq : Upd NoB W (W.alloc (.cells #[.int .i64 2, .int .i64 2, .int .i64 4, .int .i64 8] 88)) := (Upd.refl _ _).alloc _
      have HQ := Lib.hid (uq.heap HB.out (noB _))
      have k0 := uq.cell e0 (noB _)
      have k1 := uq.cell e1 (noB _)
      have k2 := uq.cell e2 (noB _)
      have z0 := blk_free HQ.out 0
      have z1 := blk_free HQ.out 1
      have z2 := blk_free HQ.out 2
      have UQ := Lib.hid uq
      clear uq
      go_wp2_with fail
      refine bodyPost_ret (ret_div rfl _ _ w.heap.size _ _ _ rfl (set3_heap HQ.out)) rfl ?_
      have hu := upd_three (g := w.heap.size) UQ.out (.int .i64 16) (.slice (some ⟨W.heap.size, 0, none⟩) 4 4) (.slice a L cap)
      have hw := upd_three (g := w.heap.size) (Upd.refl NoB (W.alloc (.cells #[.int .i64 2, .int .i64 2, .int .i64 4, .int .i64 8] 88))) (.int .i64 16) (.slice (some ⟨W.heap.size, 0, none⟩) 4 4) (.slice a L cap)
      have hne : W.heap.size ≠ w.heap.size := by have := lt_of_block HB.out; omega
      unfold DRes2
      rw [if_pos (show isD true gs = true from HGt.out)]
      refine ⟨_, _, rfl, Ints.ofBlock (xs := swL) (by decide) (hw.heap (heap_alloc_new W _) hne), HX.out.upd hu (fun hne2 k hk e => ?_), upd_into U0.out hu, ownAt U0.out.size, .inl ⟨rfl, rfl⟩⟩
      have := H.out.lt hne2 k hk
      have e' : k = w.heap.size := e
      omega
    | false =>
      rw [hG] at HA
      have HGt := Lib.hid hG
      clear hG
      go_enter Tryd.func50, Tryd.ntmps50
      go_wp2_with fail
      rw [← HW.out]
      refine HA.out.mono ?_
      rintro e w' ⟨rfl, rfl⟩
      go_wp2_with fail
      refine bodyPost_ret (ret_div rfl _ _ w.heap.size _ _ _ rfl (set3_heap HB.out)) rfl ?_
      unfold DRes2
      rw [if_neg (show ¬ isD true gs = true by show ¬ isG 8 gs = true; rw [HGt.out]; simp)]
      exact ⟨rfl, upd_into U0.out (upd_three (Upd.refl _ _) _ _ _)⟩
  | false =>
    by_cases hz : L = 0
    · have hnil : gs = [] := List.eq_nil_of_length_eq_zero (by rw [HL.out, hz])
      have HNil := Lib.hid hnil
      have t1 : decide ((L : Int) = 0) = true := decide_eq_true (by omega)
      have t1n : decide (L = 0) = true := decide_eq_true hz
      have t1b : ((L : Int) == 0) = true := by rw [beq_iff_eq]; omega
      clear hnil hz
      have c : ∀ j x, lwL[j]? = some x → (w.alloc (.cells #[.int .i64 0, .slice none 0 0, .slice none 0 0] 52)).cell? ⟨1, j, none⟩ = some (.int .i64 x) := fun j x hx => by rw [← HW.out]; exact HG.out.2 j x hx
      have c0 := c 0 _ rfl
      have c1 := c 1 _ rfl
      have c2 := c 2 _ rfl
      have c3 := c 3 _ rfl
      have c4 := c 4 _ rfl
      have c5 := c 5 _ rfl
      have c6 := c 6 _ rfl
      have c7 := c 7 _ rfl
      have c8 := c 8 _ rfl
      have c9 := c 9 _ rfl
      have c10 := c 10 _ rfl
      have c11 := c 11 _ rfl
      have c12 := c 12 _ rfl
      have c13 := c 13 _ rfl
      have c14 := c 14 _ rfl
      clear c
      go_enter Tryd.func50, Tryd.ntmps50
      go_wp2_with fail
      refine bodyPost_ret (ret_div rfl _ _ w.heap.size _ _ _ rfl (boxes3 w _ _ _).1) rfl ?_
      unfold DRes2
      rw [if_pos (show isD false gs = true by rw [HNil.out]; rfl)]
      exact ⟨_, _, rfl, Ints.ofBlock (xs := lwL) (by decide) (boxes3 w _ _ _).2.1, Ints.ofBlock (xs := [1]) (by decide) (boxes3 w _ _ _).2.2.1, (boxes3 w _ _ _).2.2.2, ownAt (by omega), .inr (ownAt (by omega))⟩
    · have t1 : decide ((L : Int) = 0) = false := decide_eq_false (by omega)
      have t1n : decide (L = 0) = false := decide_eq_false hz
      have t1b : ((L : Int) == 0) = false := by rw [beq_eq_false_iff_ne]; omega
      have HNe := Lib.hid (show isD false gs = false by
        show gs.isEmpty = false
        cases gs with
        | nil => exact absurd HL.out.symm hz
        | cons x t => rfl)
      clear hz
      go_enter Tryd.func50, Tryd.ntmps50
      go_wp2_with fail
      refine bodyPost_ret (ret_div rfl _ _ w.heap.size _ _ _ rfl (heap_alloc_new w _)) rfl ?_
      unfold DRes2
      rw [if_neg (show ¬ isD false gs = true by rw [HNe.out]; simp)]
      exact ⟨rfl, (Upd.refl _ _).alloc _⟩
theorem divisionOf_any (s : Bool) (v : Value) (gs : List Int) (w : World) (h : Ints w v gs) (hg : Gv w) : Calls Tryd.prog 50 #[.bool s, v] w (DRes w s gs) := by
  refine (divisionOf2_any s v gs w h hg).mono ?_
  intro e w' hr
  unfold DRes2 at hr
  unfold DRes
  by_cases hd : isD s gs = true
  · rw [if_pos hd] at hr ⊢
    obtain ⟨vw, vg, h1, h2, h3, h4, _⟩ := hr
    exact ⟨vw, vg, h1, h2, h3, h4⟩
  · rw [if_neg hd] at hr ⊢
    exact hr
end Go.Proofs.YtgdndcbcdoogpaaDoor

namespace Go.Proofs.YtgdndcbcdoogpaaDoor
open Go.RowKit Go.Shelf

theorem wpList_push {w : World} {ops : Array Oper} {rest : List Oper} {o : Oper} {a : Act} {Q : Exit → Act → World → Prop} (hgd : o.guard = none) (s x : Operand)
    (ho : o.op = .call { callee := .builtin .append, args := #[s, x], argTypes := #[22, 22] }) (B : Nat) (v : Value) (n : Nat) (xs : List Int) (y : Int) (hs : a.eval s = v) (hx : a.eval x = .slice (some ⟨w.heap.size, 0, none⟩) 1 1)
    (hown : w.ownsRow B 3 1 v n (i64s xs)) (hn : n ≤ 1000000) (hB : B ≤ w.heap.size)
    (hK : ∀ v' w', w'.ownsRow B 3 1 v' (n + 1) (i64s (xs ++ [y])) → Upd (fun k => B ≤ k) w w' → wpList Tryd.prog ops Q rest (a.put o.dst v') w') : wpList Tryd.prog ops Q (o :: rest) a (w.alloc (.cells #[.int .i64 y] 3)) := by
  obtain ⟨i0, hi, hz0, hz1, hz2⟩ := info_parts Tryd.infoInt
  have u : Upd NoB w (w.alloc (.cells #[.int .i64 y] 3)) := (Upd.refl _ _).alloc _
  refine wpList_append_own (w := w.alloc (.cells #[.int .i64 y] 3)) hgd s x 22 ho B 3 i0 (.int .i64 0) 1 8 Tryd.underlying22 hi hz0 hz1 hz2 rfl (by decide) v n (i64s xs) hs (u.row hown (fun k _ => noB k)) ⟨w.heap.size, 0, none⟩ 1 1 [.int .i64 y] hx rfl (World.news_of_block (heap_alloc_new w _)) (by intro u hu; rw [List.mem_singleton] at hu; subst hu; rfl) (by unfold maxLen; omega) (by omega) (Nat.le_trans hB u.size) ?_
  intro v' w' hown' hgr _
  refine hK v' w' (by rw [i64s_append]; exact hown') ?_
  exact ((u.mono (T := fun k => B ≤ k) (fun _ _ h => h.elim))).grown hgr (fun k hk _ => (hown.lt k hk).1)
theorem upd_ge {w w' : World} (h : Upd (fun k => w.heap.size ≤ k) w w') : Upd NoB w w' := h.mono (fun k hk h => by omega)
theorem upd_ge' {w w' : World} (h : Upd NoB w w') (B : Nat) : Upd (fun k => B ≤ k) w w' := h.mono (fun _ _ h => h.elim)
theorem made_zero (n : Nat) : (madeCells #[Value.int .i64 0] n).toList = i64s (List.replicate n 0) := by
  rw [toList_madeCells_one]; simp [i64s]
def bwK (ws gs : List Int) (k : Nat) : List Int := bwL ws (gs.take k)
theorem bwK_succ {ws gs : List Int} {k : Nat} {x : Int} (h : gs[k]? = some x) : bwK ws gs (k + 1) = bwK ws gs k ++ ws.map (fun w => x * w) := by
  unfold bwK bwL
  rw [List.take_add_one, h, List.flatMap_append]; simp
theorem bwK_len (ws gs : List Int) : ∀ k : Nat, (bwK ws gs k).length ≤ ws.length * k
  | 0 => by simp [bwK, bwL]
  | k + 1 => by
    have ih := bwK_len ws gs k
    cases h : gs[k]? with
    | none =>
      have : bwK ws gs (k + 1) = bwK ws gs k := by unfold bwK; rw [List.take_add_one, h]; simp
      rw [this, Nat.mul_add]; omega
    | some x => rw [bwK_succ h, List.length_append, List.length_map, Nat.mul_add]; omega
theorem map_take {f : Int → Int} {ws : List Int} {t : Nat} {x : Int} (h : ws[t]? = some x) : (ws.take (t + 1)).map f = (ws.take t).map f ++ [f x] := by
  rw [List.take_add_one, h]; simp
set_option maxRecDepth 100000 in
set_option maxHeartbeats 4000000 in
theorem bandWidths_any (l : Int) (vw vg : Value) (ws gs : List Int) (w : World) (hw : Ints w vw ws) (hg : Ints w vg gs) (bw : ws.length ≤ 15 ∧ ∀ x ∈ ws, 0 ≤ x ∧ x ≤ 128) (bg : gs.length ≤ 8 ∧ ∀ x ∈ gs, 0 ≤ x ∧ x ≤ 8) :
    Calls Tryd.prog 51 #[.agg #[.int .i64 l, vw, vg]] w (IRes w (bwL ws gs)) := by
  obtain ⟨aw, cw, rfl⟩ := hw.form
  obtain ⟨ag, cg, rfl⟩ := hg.form
  have BW := Lib.hid bw; have BG := Lib.hid bg
  have HAl := Lib.hid (show bwK ws gs gs.length = bwL ws gs by unfold bwK; rw [List.take_length])
  obtain ⟨N, hN⟩ : ∃ N, ws.length = N := ⟨_, rfl⟩
  obtain ⟨M, hM⟩ : ∃ M, gs.length = M := ⟨_, rfl⟩
  have HN := Lib.hid hN; have HM := Lib.hid hM
  obtain ⟨W, hW⟩ : ∃ W, W = w.alloc (.cells #[.int .i64 l, .slice aw N cw, .slice ag M cg] 52) := ⟨_, rfl⟩
  have u0 : Upd NoB w W := by rw [hW]; exact (Upd.refl _ _).alloc _
  have bx : W.heap[w.heap.size]? = some (.cells #[.int .i64 l, .slice aw N cw, .slice ag M cg] 52 (0, 0)) := by rw [hW]; exact heap_alloc_new w _
  have XW := Lib.hid (hw.later u0); have XG := Lib.hid (hg.later u0)
  have HB := Lib.hid bx; have HW := Lib.hid hW; have U0 := Lib.hid u0
  rw [hN] at XW bw ⊢
  rw [hM] at XG HAl bg ⊢
  have hN15 : N ≤ 15 := bw.1
  have hM8 : M ≤ 8 := bg.1
  have d2 : (w.alloc (.cells #[.int .i64 l, .slice aw N cw, .slice ag M cg] 52)).cell? ⟨w.heap.size, 2, none⟩ = some (.slice ag M cg) := by rw [← hW]; exact blk_cell bx 2
  clear hw hg bw bg hN hM hW u0 bx
  go_enter Tryd.func51, Tryd.ntmps51
  go_wp2_with fail
  rw [← HW.out]
  clear d2
  go_loopw [3, 11] (fun v i wr => ∃ k : Nat, k ≤ M ∧ i = .int .i64 k ∧ wr.ownsRow W.heap.size 3 1 v (bwK ws gs k).length (i64s (bwK ws gs k)) ∧ Upd NoB W wr) (fun _ i _ => M - (intOf i).toNat)
  case atStart => exact ⟨0, Nat.zero_le _, rfl, World.ownsRow_nil _ _ _ _, Upd.refl _ _⟩
  case round =>
    obtain ⟨k, hk, rfl, hown, hu⟩ := hrel
    have HOw := Lib.hid hown; have HU := Lib.hid hu
    by_cases hlt : k < M
    · obtain ⟨x, hx⟩ : ∃ x, gs[k]? = some x := ⟨_, List.getElem?_eq_getElem (by rw [HM.out]; exact hlt)⟩
      have hxb := BG.out.2 x (List.mem_of_getElem? hx)
      have XWr := Lib.hid (XW.out.later hu)
      obtain ⟨b, off, rfl, c0⟩ := (XG.out.later hu).cellAt hx
      have d1 : wr.cell? ⟨w.heap.size, 1, none⟩ = some (.slice aw N cw) := blk_cell (hu.heap HB.out (noB _)) 1
      have HT := Lib.hid (bwK_succ (ws := ws) hx)
      have hle : (bwK ws gs k).length ≤ 15 * 8 := Nat.le_trans (bwK_len ws gs k) (Nat.mul_le_mul (by rw [HN.out]; exact hN15) (by omega))
      have HTl := Lib.hid (show (bwK ws gs (k + 1)).length = (bwK ws gs k).length + N by rw [HT.out, List.length_append, List.length_map, HN.out])
      generalize bwK ws gs k = ys at *
      obtain ⟨n, hn⟩ : ∃ n, ys.length = n := ⟨_, rfl⟩
      rw [hn] at HOw HTl hle hown
      obtain ⟨va, vc, rfl⟩ := row_form hown
      clear hx hn hown hu
      obtain ⟨wo, rfl⟩ : ∃ wo : World, wo = wr := ⟨_, rfl⟩
      obtain ⟨hx0, hx8⟩ := hxb
      go_wp2_with fail
      go_loopw [3, 18] (fun v i wr => ∃ t : Nat, t ≤ N ∧ i = .int .i64 t ∧ wr.ownsRow W.heap.size 3 1 v (n + t) (i64s (ys ++ (ws.take t).map (fun w => x * w))) ∧ Upd NoB W wr) (fun _ i _ => N - (intOf i).toNat)
      case atStart => exact ⟨0, Nat.zero_le _, rfl, by rw [List.take_zero, List.map_nil, List.append_nil]; exact HOw.out, HU.out⟩
      case round =>
        obtain ⟨t, ht, rfl, hown2, hu2⟩ := hrel
        obtain ⟨va2, vc2, rfl⟩ := row_form hown2
        have HO2 := Lib.hid hown2; have HU2 := Lib.hid hu2
        have hb2 := hu2.size
        by_cases hlt2 : t < N
        · obtain ⟨y, hy⟩ : ∃ y, ws[t]? = some y := ⟨_, List.getElem?_eq_getElem (by rw [HN.out]; exact hlt2)⟩
          obtain ⟨bb, boff, rfl, c1⟩ := (XW.out.later hu2).cellAt hy
          have hyb := BW.out.2 y (List.mem_of_getElem? hy)
          have HRt := Lib.hid (show ys ++ (ws.take (t + 1)).map (fun w => x * w) = (ys ++ (ws.take t).map (fun w => x * w)) ++ [x * y] by rw [map_take hy, List.append_assoc])
          obtain ⟨q, hq⟩ : ∃ q, x * y = q := ⟨_, rfl⟩
          have hqb : 0 ≤ q ∧ q ≤ 8 * 128 := by rw [← hq]; exact ⟨Int.mul_nonneg hx0 hyb.1, Int.mul_le_mul hx8 hyb.2 hyb.1 (by omega)⟩
          have hw1 : wrap64 (x * y) = q := by rw [hq]; exact IntWalk.wrap64_in _ (by omega)
          have hw2 : IntKind.i64.wrap (x * y) = q := by rw [hq]; exact IntWalk.i64_in _ (by omega)
          rw [hq] at HRt
          generalize ys ++ (ws.take t).map (fun w => x * w) = zs at *
          obtain ⟨nt, hnt⟩ : ∃ nt, n + t = nt := ⟨_, rfl⟩
          have HNt := Lib.hid (show n + (t + 1) = nt + 1 by omega)
          rw [hnt] at HO2 ⊢
          have hnt6 : nt ≤ 1000000 := by omega
          clear hnt hy hq hown2 hu2 hyb
          go_wp2_with (at_builtin; refine wpList_push rfl (.tmp 22) (.tmp 26) rfl W.heap.size (.slice va2 nt vc2) nt zs q rfl rfl HO2.out hnt6 hb2 ?_; intro v' w' hown' u'; have R' := Lib.hid hown'; have U' := Lib.hid u'; clear hown' u')
          go_roundw
          case rel => exact ⟨t + 1, by omega, by go_num, by rw [HNt.out, HRt.out]; exact R'.out, upd_ge ((upd_ge' HU2.out W.heap.size).trans U'.out (fun _ _ h => h))⟩
          case measure => simp [intOf]; omega
        · obtain rfl : t = N := by omega
          have HTk := Lib.hid (show ws.take t = ws from List.take_of_length_le (by rw [HN.out]; exact Nat.le_refl _))
          clear hown2 hu2
          go_wp2_with fail
          go_roundw
          case rel => exact ⟨k + 1, by omega, by go_num, by rw [HTl.out, HT.out]; have := HO2.out; rw [HTk.out] at this; exact this, HU2.out⟩
          case measure => simp [intOf]; omega
    · obtain ⟨va, vc, rfl⟩ := row_form hown
      clear hown hu
      obtain rfl : k = M := by omega
      go_wp2_with fail
      go_ret
      exact ⟨_, rfl, by rw [← HAl.out]; exact row_base HOw.out U0.out.size, U0.out.then HU.out⟩
end Go.Proofs.YtgdndcbcdoogpaaDoor

namespace Go.Proofs.YtgdndcbcdoogpaaDoor
open Go.RowKit Go.Shelf

def EInts (w : World) (xs : List Int) (E : Int) (e : Ending) (w' : World) : Prop := ∃ a n c, e = .returned (.tuple #[.slice a n c, .int .i64 E]) ∧ w'.ownsRow w.heap.size 3 1 (.slice a n c) xs.length (i64s xs) ∧ Upd NoB w w'
def dE (s : Bool) (gs : List Int) : Int := if isD s gs then 0 else 1
def wdS (s : Bool) (gs : List Int) : List Int := if isD s gs then bandsL s gs else []
theorem dW_bd (s : Bool) : (dW s).length ≤ 15 ∧ ∀ x ∈ dW s, 0 ≤ x ∧ x ≤ 128 := by
  cases s
  · exact ⟨by decide, by decide⟩
  · exact ⟨by decide, by decide⟩
theorem dG_bd {s : Bool} {gs : List Int} (h : isD s gs = true) : (dG s gs).length ≤ 8 ∧ ∀ x ∈ dG s gs, 0 ≤ x ∧ x ≤ 8 := by
  cases s
  · exact ⟨by show [1].length ≤ 8; decide, by show ∀ x ∈ [(1 : Int)], 0 ≤ x ∧ x ≤ 8; decide⟩
  · have h1 := isG_bd (gs := gs) h
    exact ⟨h1.1, fun x hx => by have := h1.2 x hx; omega⟩
set_option maxRecDepth 100000 in
set_option maxHeartbeats 2000000 in
theorem Widths_any (s : Bool) (v : Value) (gs : List Int) (w : World) (h : Ints w v gs) (hg : Gv w) : Calls Tryd.prog 17 #[.bool s, v] w (EInts w (wdS s gs) (dE s gs)) := by
  have HD := Lib.hid (divisionOf_any s v gs w h hg)
  obtain ⟨a, cap, rfl⟩ := h.form
  cases hd : isD s gs with
  | true =>
    have HS := Lib.hid (show wdS s gs = bandsL s gs from if_pos hd)
    have HE := Lib.hid (show dE s gs = 0 from if_pos hd)
    have HBg := Lib.hid (dG_bd hd)
    have HDd := Lib.hid hd
    rw [HS.out, HE.out]
    obtain ⟨L, hL⟩ : ∃ L, gs.length = L := ⟨_, rfl⟩
    rw [hL] at HD ⊢
    clear h hg hd hL
    go_enter Tryd.func17, Tryd.ntmps17
    go_wp2_with fail
    refine HD.out.mono ?_
    intro e w1 hr
    unfold DRes at hr
    rw [if_pos HDd.out] at hr
    obtain ⟨vw, vg, rfl, iw, ig, u1⟩ := hr
    obtain ⟨aw, cw, rfl⟩ := iw.form
    obtain ⟨ag, cg, rfl⟩ := ig.form
    have IW := Lib.hid iw; have IG := Lib.hid ig; have U1 := Lib.hid u1
    clear iw ig u1
    go_wp2_with fail
    refine (bandWidths_any (dLn s) _ _ (dW s) (dG s gs) _ (IW.out.later ((Upd.refl NoB w1).alloc _)) (IG.out.later ((Upd.refl NoB w1).alloc _)) (dW_bd s) HBg.out).mono ?_
    rintro e w2 ⟨v2, rfl, r2, u2⟩
    obtain ⟨a2, c2, rfl⟩ := row_form r2
    have R2 := Lib.hid (row_base r2 (Nat.le_trans U1.out.size ((Upd.refl NoB w1).alloc _).size)); have U2 := Lib.hid (U1.out.then (((Upd.refl NoB w1).alloc _).then u2))
    clear r2 u2
    go_wp2_with fail
    go_ret2
    exact ⟨_, _, _, rfl, R2.out, U2.out⟩
  | false =>
    have HS := Lib.hid (show wdS s gs = [] from if_neg (by rw [hd]; simp))
    have HE := Lib.hid (show dE s gs = 1 from if_neg (by rw [hd]; simp))
    have HDd := Lib.hid (show ¬ isD s gs = true by rw [hd]; simp)
    rw [HS.out, HE.out]
    obtain ⟨L, hL⟩ : ∃ L, gs.length = L := ⟨_, rfl⟩
    rw [hL] at HD ⊢
    clear h hg hd hL
    go_enter Tryd.func17, Tryd.ntmps17
    go_wp2_with fail
    refine HD.out.mono ?_
    intro e w1 hr
    unfold DRes at hr
    rw [if_neg HDd.out] at hr
    obtain ⟨rfl, u1⟩ := hr
    have U1 := Lib.hid u1
    clear u1
    go_wp2_with fail
    go_ret2
    exact ⟨none, 0, 0, rfl, World.ownsRow_nil _ _ _ _, U1.out.alloc _⟩
def ctN (s : Bool) (gs : List Int) : Nat := (dG s gs).length * (dW s).length
theorem bwL_length (ws : List Int) : ∀ gs : List Int, (bwL ws gs).length = gs.length * ws.length
  | [] => by simp [bwL]
  | g :: t => by
    have ih := bwL_length ws t
    unfold bwL at ih ⊢
    rw [List.flatMap_cons, List.length_append, List.length_map, ih, List.length_cons, Nat.add_mul]; omega
theorem ctN_bands (s : Bool) (gs : List Int) : (bandsL s gs).length = ctN s gs := bwL_length _ _
def ctS (s : Bool) (gs : List Int) : Int := if isD s gs then (ctN s gs : Nat) else 0
set_option maxRecDepth 100000 in
set_option maxHeartbeats 2000000 in
theorem Count_any (s : Bool) (v : Value) (gs : List Int) (w : World) (h : Ints w v gs) (hg : Gv w) : Calls Tryd.prog 21 #[.bool s, v] w fun e w' => e = .returned (.tuple #[.int .i64 (ctS s gs), .int .i64 (dE s gs)]) ∧ Upd NoB w w' := by
  have HD := Lib.hid (divisionOf_any s v gs w h hg)
  obtain ⟨a, cap, rfl⟩ := h.form
  cases hd : isD s gs with
  | true =>
    have HS := Lib.hid (show ctS s gs = (ctN s gs : Nat) from if_pos hd)
    have HE := Lib.hid (show dE s gs = 0 from if_pos hd)
    have HBg := Lib.hid (dG_bd hd)
    have HDd := Lib.hid hd
    rw [HS.out, HE.out]
    obtain ⟨L, hL⟩ : ∃ L, gs.length = L := ⟨_, rfl⟩
    rw [hL] at HD ⊢
    clear h hg hd hL
    go_enter Tryd.func21, Tryd.ntmps21
    go_wp2_with fail
    refine HD.out.mono ?_
    intro e w1 hr
    unfold DRes at hr
    rw [if_pos HDd.out] at hr
    obtain ⟨vw, vg, rfl, iw, ig, u1⟩ := hr
    obtain ⟨aw, cw, rfl⟩ := iw.form
    obtain ⟨ag, cg, rfl⟩ := ig.form
    have U1 := Lib.hid u1
    clear iw ig u1
    go_wp2_with fail
    refine (count_any _ _ _ (dW s).length (dG s gs).length _ _ _ (by have := (dW_bd s).1; omega) (by have := HBg.out.1; omega)).mono ?_
    rintro e w2 ⟨rfl, u2⟩
    have U2 := Lib.hid (U1.out.then (((Upd.refl NoB w1).alloc _).then u2))
    clear u2
    go_wp2_with fail
    go_ret2
    exact ⟨by unfold ctN; rw [Int.natCast_mul]; rfl, U2.out⟩
  | false =>
    have HS := Lib.hid (show ctS s gs = 0 from if_neg (by rw [hd]; simp))
    have HE := Lib.hid (show dE s gs = 1 from if_neg (by rw [hd]; simp))
    have HDd := Lib.hid (show ¬ isD s gs = true by rw [hd]; simp)
    rw [HS.out, HE.out]
    obtain ⟨L, hL⟩ : ∃ L, gs.length = L := ⟨_, rfl⟩
    rw [hL] at HD ⊢
    clear h hg hd hL
    go_enter Tryd.func21, Tryd.ntmps21
    go_wp2_with fail
    refine HD.out.mono ?_
    intro e w1 hr
    unfold DRes at hr
    rw [if_neg HDd.out] at hr
    obtain ⟨rfl, u1⟩ := hr
    have U1 := Lib.hid u1
    clear u1
    go_wp2_with fail
    go_ret2
    exact ⟨rfl, U1.out.alloc _⟩
end Go.Proofs.YtgdndcbcdoogpaaDoor
