/- the reader: zeros -/
import Derived.Test.YtjnbnhnkjhnbkaaRd
namespace Go.Proofs.Ytjnbnhnkjhnbkaa
open Go.RowKit Go.Shelf
attribute [local go_sem] Oper.semAt_some

/-- The zeros ahead of a one: (how many, OK), or (0, ErrForm), or (0, ErrShort). -/
def zscan (most : Nat) : List Nat → Nat → Nat × Nat
  | [], _ => (0, 3)
  | x :: xs, n => if x = 1 then (n, 0) else if n = most then (0, 4) else zscan most xs (n + 1)
theorem zscan_skip (most : Nat) : ∀ (pre rest : List Nat) (n : Nat), (∀ y ∈ pre, y = 0) → n + pre.length ≤ most → zscan most (pre ++ rest) n = zscan most rest (n + pre.length)
  | [], rest, n, _, _ => by simp
  | x :: pre, rest, n, h, hl => by
    have hx := h x List.mem_cons_self
    subst hx
    rw [List.length_cons] at hl
    rw [List.cons_append, zscan, if_neg (by decide), if_neg (by omega), zscan_skip most pre rest (n + 1) (fun y hy => h y (List.mem_cons_of_mem _ hy)) (by omega), List.length_cons]
    congr 1; omega

theorem zret {w W W2 W3 : World} {B1 B2 B3 D : Nat} {u v : Value} {t1 t2 : TypeId} (hu : Upd NoB w W) (hu2 : Upd NoB W W2) (u3 : Upd (fun k => k = B1 ∨ k = B2 ∨ k = B3) W2 W3)
    (k1 : W3.heap[B1]? = some (.cells #[u] t1 (0, 0))) (k2 : W3.heap[B2]? = some (.cells #[v] t2 (0, 0))) (kD : W3.heap[D]? = some (.deferred (some []))) (hD : W2.heap.size ≤ D) (h1 : w.heap.size ≤ B1) (h2 : w.heap.size ≤ B2) (h3 : w.heap.size ≤ B3) :
    (W3.putObj D (.deferred none)).cell? ⟨B1, 0, none⟩ = some u ∧ (W3.putObj D (.deferred none)).cell? ⟨B2, 0, none⟩ = some v ∧ Upd NoB w (W3.putObj D (.deferred none)) := by
  have d1 : B1 ≠ D := fun e => by subst e; rw [k1] at kD; cases kD
  have d2 : B2 ≠ D := fun e => by subst e; rw [k2] at kD; cases kD
  refine ⟨cell_of_one ((World.putObj_heap_other d1).trans k1), cell_of_one ((World.putObj_heap_other d2).trans k2), ?_⟩
  have hs := Nat.le_trans hu.size hu2.size
  refine Upd.grown ((hu.then hu2).trans u3 ?_) (grownBy_putObj' _ _ _) ?_
  · rintro i hi (rfl | rfl | rfl) <;> omega
  · intro k e hk
    cases e
    omega

set_option maxRecDepth 100000 in
set_option maxHeartbeats 1000000 in
theorem zeros_any (b : Nat) (sv : Value) (zs : List Nat) (cnt at_ most : Nat) (w : World) (h : RAt w b sv zs cnt at_) (hm : most ≤ 1000) :
    Calls Try.prog 111 #[.pointer (some ⟨b, 0, none⟩), .int .i64 most] w fun e w' => e = .returned (.tuple #[.int .i64 (zscan most (bitsOf zs at_ (cnt - at_)) 0).1, .int .i64 (zscan most (bitsOf zs at_ (cnt - at_)) 0).2]) ∧ Upd NoB w w' := by
  have hbs := lt_of_block h.1
  have hcnt := h.2.2.2.2.1
  have hat := h.2.2.2.1
  have hsv : ∃ a cap, sv = .slice a zs.length cap := by obtain ⟨_, ⟨_, a, cap, rfl, _⟩, _⟩ := h; exact ⟨a, cap, rfl⟩
  obtain ⟨a, cap, rfl⟩ := hsv
  have H := Lib.hid h; clear h
  refine (callsIn_wide (n := 2)).1 (callsIn_of_wp_marks Try.func111 rfl trivial (wpIn_wide.2 ?_) rfl)
  simp only [Try.ntmps111, List.size_toArray, List.length_cons, List.length_nil, Nat.reduceAdd, Nat.reduceSub, Array.replicate_succ, Array.replicate_zero, List.push_toArray, List.append_toArray, List.nil_append, List.cons_append]
  go_wp2
  obtain ⟨W, hW⟩ : ∃ W, W = (((w.alloc (.cells #[.int .i64 most] 3)).alloc (.cells #[.int .i64 0] 3)).alloc (.cells #[.int .i64 0] 22)).alloc (.cells #[.int .i64 0] 3) := ⟨_, rfl⟩
  rw [← hW]
  have hu : Upd NoB w W := by rw [hW]; exact ((((Upd.refl _ _).alloc _).alloc _).alloc _).alloc _
  have hsz : W.heap.size = w.heap.size + 4 := by rw [hW]; simp
  have e0 : W.heap[w.heap.size]? = some (.cells #[.int .i64 most] 3 (0, 0)) := by
    rw [hW]; exact (Below.heap_alloc _ _ _ (by simp; omega)).trans (boxes3 w _ _ _).1
  have e1 : W.heap[w.heap.size + 1]? = some (.cells #[.int .i64 0] 3 (0, 0)) := by
    rw [hW]; exact (Below.heap_alloc _ _ _ (by simp)).trans (boxes3 w _ _ _).2.1
  have e2 : W.heap[w.heap.size + 1 + 1]? = some (.cells #[.int .i64 0] 22 (0, 0)) := by
    rw [hW]; exact (Below.heap_alloc _ _ _ (by simp)).trans (boxes3 w _ _ _).2.2.1
  have e3 : W.heap[w.heap.size + 1 + 1 + 1]? = some (.cells #[.int .i64 0] 3 (0, 0)) := by
    rw [hW]
    have := heap_alloc_new (((w.alloc (.cells #[.int .i64 most] 3)).alloc (.cells #[.int .i64 0] 3)).alloc (.cells #[.int .i64 0] 22)) (.cells #[.int .i64 0] 3)
    rwa [World.size_alloc, World.size_alloc, World.size_alloc] at this
  obtain ⟨B0, hB0⟩ : ∃ B0, B0 = w.heap.size := ⟨_, rfl⟩
  obtain ⟨B1, hB1⟩ : ∃ B1, B1 = w.heap.size + 1 := ⟨_, rfl⟩
  obtain ⟨B2, hB2⟩ : ∃ B2, B2 = w.heap.size + 1 + 1 := ⟨_, rfl⟩
  obtain ⟨B3, hB3⟩ : ∃ B3, B3 = w.heap.size + 1 + 1 + 1 := ⟨_, rfl⟩
  rw [← hB3] at e3
  rw [← hB2] at e2
  rw [← hB1] at e1
  rw [← hB0] at e0
  rw [← hB3, ← hB2, ← hB1, ← hB0]
  have hR := H.out.upd hu (fun k _ => noB k)
  have c0 := hR.c0
  have c1 := hR.c1
  have c2 := hR.c2
  have l0 : w.heap.size ≤ B0 := by omega
  have l01 : B0 < B1 := by omega
  have l12 : B1 < B2 := by omega
  have l23 : B2 < B3 := by omega
  have l3 : B3 < W.heap.size := by omega
  have HB0 := Lib.hid hB0; clear hB0
  have HB1 := Lib.hid hB1; clear hB1
  have HB2 := Lib.hid hB2; clear hB2
  have HB3 := Lib.hid hB3; clear hB3
  have E0 := Lib.hid e0; clear e0
  have E1 := Lib.hid e1; clear e1
  have E2 := Lib.hid e2; clear e2
  have E3 := Lib.hid e3; clear e3
  have HR := Lib.hid hR; clear hR
  have HW := Lib.hid hW; clear hW
  have Hsz := Lib.hid hsz; clear hsz
  refine wp_region_still_tail 12 (by kernel_rfl) (by kernel_rfl) ?_
  simp only [List.take_succ_cons, List.take_zero, List.drop_succ_cons, List.drop_zero]
  repeat still_step
  refine wpStill_nil ?_
  change wpList _ _ _ _ _ (World.drew W)
  go_wp2_with (go_at_call 64; refine (between_in _ _ _ _ _ _).mono ?_; rintro e w2 ⟨rfl, rfl⟩)
  obtain ⟨W2, hW2⟩ : ∃ W2, W2 = (((W.alloc (.cells #[.slice a zs.length cap] 32)).alloc (.cells #[.int .i64 at_] 3)).alloc (.cells #[.int .i64 cnt] 3)).drew := ⟨_, rfl⟩
  rw [← hW2]
  obtain ⟨b0, b1, b2, hu2⟩ := boxes3 W (.cells #[.slice a zs.length cap] 32) (.cells #[.int .i64 at_] 3) (.cells #[.int .i64 cnt] 3)
  have hu2 : Upd NoB W W2 := by rw [hW2]; exact hu2.drew
  have b0 : W2.heap[W.heap.size]? = some (.cells #[.slice a zs.length cap] 32 (0, 0)) := by rw [hW2]; exact b0
  have b1 : W2.heap[W.heap.size + 1]? = some (.cells #[.int .i64 at_] 3 (0, 0)) := by rw [hW2]; exact b1
  have b2 : W2.heap[W.heap.size + 2]? = some (.cells #[.int .i64 cnt] 3 (0, 0)) := by rw [hW2]; exact b2
  have HW2 := Lib.hid hW2; clear hW2
  have hR2 := HR.out.upd hu2 (fun k _ => noB k)
  have f0 := hu2.heap E0.out (noB _)
  have f1 := hu2.heap E1.out (noB _)
  have f2 := hu2.heap E2.out (noB _)
  have f3 := hu2.heap E3.out (noB _)
  have hD : ∀ k, betweenD W.heap.size (.slice a zs.length cap) zs k → k < W2.heap.size ∧ k ≠ B0 ∧ k ≠ B1 ∧ k ≠ B2 ∧ k ≠ B3 := by
    rintro k (rfl | rfl | rfl | ⟨hz, hk⟩)
    · exact ⟨lt_of_block b0, by omega, by omega, by omega, by omega⟩
    · exact ⟨lt_of_block b1, by omega, by omega, by omega, by omega⟩
    · exact ⟨lt_of_block b2, by omega, by omega, by omega, by omega⟩
    · obtain ⟨c, t, fr, hc⟩ := H.out.2.1.lt hz k hk
      have := lt_of_block hc
      have := hu.size
      have := hu2.size
      exact ⟨by omega, by omega, by omega, by omega, by omega⟩
  have hsW2 := hu2.size
  have hn : at_ + (cnt - at_) = cnt := by omega
  obtain ⟨N, hN⟩ : ∃ N, N = cnt - at_ := ⟨_, rfl⟩
  refine (wpIn_wide (n := 2)).1 (wpIn_rangeFunc_ownG rfl (by omega) (gf := 94) (lb := betweenLb W.heap.size) rfl trivial (enters_of Try.func94 (by kernel_rfl) rfl)
    (between_seq W.heap.size _ zs at_ (cnt - at_) W2 (by have := hR2.2.2.1; omega) hR2.2.2.2.2.2 (cell_of_one b1) (by rw [hn]; exact cell_of_one b2) (cell_of_one b0) hR2.2.1 (fun k hk => (hD k hk).1)) (fun h k => h.trans k)
    (fun W' l o o' hl _ _ _ => keepD_putObj (fun hd => by have := (hD _ hd).1; omega)) (Below.refl _ _) (fun _ => rfl)
    (fun pre W' => (∀ y ∈ pre.map Subtype.val, y = 0) ∧ pre.length ≤ most ∧ W'.heap[B0]? = some (.cells #[.int .i64 most] 3 (0, 0)) ∧ W'.heap[B1]? = some (.cells #[.int .i64 0] 3 (0, 0)) ∧ W'.heap[B2]? = some (.cells #[.int .i64 0] 22 (0, 0)) ∧
      W'.heap[B3]? = some (.cells #[.int .i64 (pre.length : Nat)] 3 (0, 0)) ∧ Upd (fun k => k = B1 ∨ k = B2 ∨ k = B3) W2 W')
    (fun c pre W' => c = .ret ∧ ∃ p x r1 r2, pre.map Subtype.val = p ++ [x] ∧ (∀ y ∈ p, y = 0) ∧ p.length ≤ most ∧ ((x = 1 ∧ r1 = p.length ∧ r2 = 0) ∨ (x = 0 ∧ p.length = most ∧ r1 = 0 ∧ r2 = 4)) ∧
      W'.heap[B1]? = some (.cells #[.int .i64 (r1 : Nat)] 3 (0, 0)) ∧ W'.heap[B2]? = some (.cells #[.int .i64 (r2 : Nat)] 22 (0, 0)) ∧ Upd (fun k => k = B1 ∨ k = B2 ∨ k = B3) W2 W')
    ?hI ?hIx ⟨by simp, by simp, f0, f1, f2, f3, Upd.refl _ _⟩
    (fun x => { tmps := #[.pointer (some ⟨b, 0, none⟩), .int .i64 most, undef, .pointer (some ⟨B0, 0, none⟩), .pointer (some ⟨B1, 0, none⟩), .pointer (some ⟨B2, 0, none⟩), .pointer (some ⟨B3, 0, none⟩), .int .i64 (x.1 : Nat), .pointer (some ⟨b, 0, none⟩), .pointer (some ⟨b, 0, none⟩), .pointer (some ⟨b, 0, none⟩), .slice a zs.length cap,
      .pointer (some ⟨b, 0, none⟩), .pointer (some ⟨b, 0, none⟩), .pointer (some ⟨b, 2, none⟩), .int .i64 at_, .pointer (some ⟨b, 0, none⟩), .pointer (some ⟨b, 0, none⟩), .pointer (some ⟨b, 1, none⟩), .int .i64 cnt,
      .func (.func 94) #[] #[.pointer (some ⟨W.heap.size + 1, 0, none⟩), .pointer (some ⟨W.heap.size + 2, 0, none⟩), .pointer (some ⟨W.heap.size, 0, none⟩)], .int .i64 (x.1 : Nat), undef, undef, undef, undef, undef, undef, undef, undef], defers := [] }) ?assign ?body ?done ?stop)
  case hI =>
    rintro s A B row ⟨h1, h2, h3, h4, h5, h6, h7⟩ hg hr
    have hne : ∀ k c t fr, A.heap[k]? = some (.cells c t fr) → some k ≠ row := fun k c t fr hk e => by
      obtain ⟨o, ho, hco⟩ := (hr k e.symm).2
      rw [hk] at ho; cases ho; cases hco
    exact ⟨h1, h2, (hg.block _ (lt_of_block h3) (hne _ _ _ _ h3)).trans h3, (hg.block _ (lt_of_block h4) (hne _ _ _ _ h4)).trans h4, (hg.block _ (lt_of_block h5) (hne _ _ _ _ h5)).trans h5, (hg.block _ (lt_of_block h6) (hne _ _ _ _ h6)).trans h6, h7.grown hg (fun k e hk => by have := (hr k e).1; omega)⟩
  case hIx =>
    rintro c s A B row ⟨hc, p, x, r1, r2, h1, h2, h3, h4, h5, h6, h7⟩ hg hr
    have hne : ∀ k c t fr, A.heap[k]? = some (.cells c t fr) → some k ≠ row := fun k c t fr hk e => by
      obtain ⟨o, ho, hco⟩ := (hr k e.symm).2
      rw [hk] at ho; cases ho; cases hco
    exact ⟨hc, p, x, r1, r2, h1, h2, h3, h4, (hg.block _ (lt_of_block h5) (hne _ _ _ _ h5)).trans h5, (hg.block _ (lt_of_block h6) (hne _ _ _ _ h6)).trans h6, h7.grown hg (fun k e hk => by have := (hr k e).1; omega)⟩
  case assign =>
    intro l x W' K hK
    gi_wp2
    exact hK
  case body =>
    rintro l pre ⟨x, hx⟩ W' ⟨h1, h2, h3, h4, h5, h6, h7⟩ hNN
    have g0 := cell_of_one h3
    have g1 := cell_of_one h4
    have g2 := cell_of_one h5
    have g3 := cell_of_one h6
    have i1 := free_of_one h4
    have i2 := free_of_one h5
    have i3 := free_of_one h6
    have G1 := Lib.hid h1; clear h1
    have G3 := Lib.hid h3; clear h3
    have G4 := Lib.hid h4; clear h4
    have G5 := Lib.hid h5; clear h5
    have G6 := Lib.hid h6; clear h6
    have hkd : ∀ (u : World), Upd (fun k => k = B1 ∨ k = B2 ∨ k = B3) W' u → KeepD (betweenD W.heap.size (.slice a zs.length cap) zs) W' u := fun u hu' => hu'.keepD (fun k hk => by
      have := hD k hk
      have := h7.size
      refine ⟨by omega, ?_⟩
      rintro (h | h | h) <;> omega)
    have Hkd := Lib.hid hkd; clear hkd
    have two : ∀ (u v : Value), ((W'.setCell ⟨B1, 0, none⟩ u).setCell ⟨B2, 0, none⟩ v).heap[B1]? = some (.cells #[u] 3 (0, 0)) ∧ ((W'.setCell ⟨B1, 0, none⟩ u).setCell ⟨B2, 0, none⟩ v).heap[B2]? = some (.cells #[v] 22 (0, 0)) ∧
        Upd (fun k => k = B1 ∨ k = B2 ∨ k = B3) W2 ((W'.setCell ⟨B1, 0, none⟩ u).setCell ⟨B2, 0, none⟩ v) := fun u v =>
      ⟨block_keep (one_setCell G4.out) (p := ⟨B2, 0, none⟩) (by show B2 ≠ B1; omega) v, one_setCell (block_keep G5.out (p := ⟨B1, 0, none⟩) (by show B1 ≠ B2; omega) u), (h7.setCell _ (fun _ => .inl rfl)).setCell _ (fun _ => .inr (.inl rfl))⟩
    have Two := Lib.hid two; clear two
    by_cases hx1 : x = 1
    · subst hx1
      gi_wp2
      obtain ⟨t1, t2, t3⟩ := Two.out (.int .i64 (pre.length : Nat)) (.int .i64 0)
      exact ⟨((KeepsOthers.setCell _ _ _).trans (KeepsOthers.setCell _ _ _)).from _, rfl, pre.map Subtype.val, 1, pre.length, 0, by simp, G1.out, by simpa using h2, .inl ⟨rfl, by simp, rfl⟩, t1, t2, t3⟩
    · have hx0 : x = 0 := by omega
      subst hx0
      by_cases hmost : pre.length = most
      · have hm1 : ((pre.length : Int) == (most : Int)) = true := by simp; omega
        have hm2 : pre.length = most := hmost
        have Hm := Lib.hid hm2; clear hm2 hmost
        gi_wp2
        obtain ⟨t1, t2, t3⟩ := Two.out (.int .i64 0) (.int .i64 4)
        exact ⟨((KeepsOthers.setCell _ _ _).trans (KeepsOthers.setCell _ _ _)).from _, rfl, pre.map Subtype.val, 0, 0, 4, by simp, G1.out, by simpa using h2, .inr ⟨rfl, by simpa using Hm.out, rfl, rfl⟩, t1, t2, t3⟩
      · have hm1 : ((pre.length : Int) == (most : Int)) = false := by simp; omega
        gi_wp2
        have u3 : Upd (fun k => k = B1 ∨ k = B2 ∨ k = B3) W' (W'.setCell ⟨B3, 0, none⟩ (.int .i64 ((pre.length : Int) + 1))) := (Upd.refl _ _).setCell _ (fun _ => .inr (.inr rfl))
        refine ⟨(KeepsOthers.setCell _ _ _).from _, Hkd.out _ u3, ?_, by simp; omega, block_keep G3.out (by show B3 ≠ B0; omega) _, block_keep G4.out (by show B3 ≠ B1; omega) _, block_keep G5.out (by show B3 ≠ B2; omega) _, ?_, h7.trans u3 (fun _ _ h => h)⟩
        · intro y hy
          rw [List.map_append, List.mem_append] at hy
          rcases hy with hy | hy
          · exact G1.out y hy
          · simpa using hy
        · have := one_setCell G6.out (u := .int .i64 ((pre.length : Int) + 1))
          simpa using this
  case done =>
    rintro D ys W' hD' hS ⟨h1, h2, h3, h4, h5, h6, h7⟩ hK
    have hz : zscan most (bitsOf zs at_ (cnt - at_)) 0 = (0, 3) := by
      have := zscan_skip most (ys.map Subtype.val) [] 0 h1 (by simpa using h2)
      rw [List.append_nil, hS] at this
      rw [this]; rfl
    have g1 := cell_of_one h4
    have g2 := cell_of_one h5
    have i1 := free_of_one h4
    have i2 := free_of_one h5
    have G1 := Lib.hid h1; clear h1
    have G3 := Lib.hid h3; clear h3
    have G4 := Lib.hid h4; clear h4
    have G5 := Lib.hid h5; clear h5
    have G6 := Lib.hid h6; clear h6
    have HK := Lib.hid hK; clear hK
    have HS := Lib.hid hS; clear hS
    have Hz := Lib.hid hz; clear hz
    clear b0 b1 b2 f0 f1 f2 f3 c0 c1 c2
    go_wp2
    have k1 : ((W'.setCell ⟨B1, 0, none⟩ (.int .i64 0)).setCell ⟨B2, 0, none⟩ (.int .i64 3)).heap[B1]? = some (.cells #[.int .i64 0] 3 (0, 0)) := block_keep (one_setCell G4.out) (p := ⟨B2, 0, none⟩) (by show B2 ≠ B1; omega) _
    have k2 : ((W'.setCell ⟨B1, 0, none⟩ (.int .i64 0)).setCell ⟨B2, 0, none⟩ (.int .i64 3)).heap[B2]? = some (.cells #[.int .i64 3] 22 (0, 0)) := one_setCell (block_keep G5.out (p := ⟨B1, 0, none⟩) (by show B1 ≠ B2; omega) _)
    have kD : ((W'.setCell ⟨B1, 0, none⟩ (.int .i64 0)).setCell ⟨B2, 0, none⟩ (.int .i64 3)).heap[D]? = some (.deferred (some [])) := heap_later (heap_later HK.out (by omega)) (by omega)
    have u3 : Upd (fun k => k = B1 ∨ k = B2 ∨ k = B3) W2 ((W'.setCell ⟨B1, 0, none⟩ (.int .i64 0)).setCell ⟨B2, 0, none⟩ (.int .i64 3)) := (h7.setCell _ (fun _ => .inl rfl)).setCell _ (fun _ => .inr (.inl rfl))
    generalize (W'.setCell ⟨B1, 0, none⟩ (.int .i64 0)).setCell ⟨B2, 0, none⟩ (.int .i64 3) = W3 at *
    obtain ⟨p1, p2, p3⟩ := zret hu hu2 u3 k1 k2 kD hD' (by omega) (by omega) (by omega)
    refine ⟨by simp, .inl ⟨_, _, rfl, run_takeDeferred kD, ?_⟩⟩
    refine ⟨.tuple #[.int .i64 0, .int .i64 3], by simp [results, Try.results111, go_sem, p1, p2], by rw [Hz.out]; rfl, p3⟩
  case stop =>
    rintro D c pre W' hD' hp ⟨rfl, p, x, r1, r2, h1, h2, h3, h4, k1, k2, u3⟩ kD
    obtain ⟨p1, p2, p3⟩ := zret hu hu2 u3 k1 k2 kD hD' (by omega) (by omega) (by omega)
    have hz : zscan most (bitsOf zs at_ (cnt - at_)) 0 = (r1, r2) := by
      rw [h1] at hp
      obtain ⟨t, ht⟩ := hp
      rw [← ht, List.append_assoc, zscan_skip most p _ 0 h2 (by simpa using h3), List.singleton_append, zscan]
      rcases h4 with ⟨rfl, rfl, rfl⟩ | ⟨rfl, h4, rfl, rfl⟩
      · simp
      · simp [h4]
    have Hz := Lib.hid hz; clear hz
    have H1 := Lib.hid h1; clear h1
    have H2 := Lib.hid h2; clear h2
    have H4 := Lib.hid h4; clear h4
    have P1 := Lib.hid p1
    have P2 := Lib.hid p2
    gi_wp2
    refine ⟨by simp, .inl ⟨_, _, rfl, run_takeDeferred kD, ?_⟩⟩
    refine ⟨.tuple #[.int .i64 r1, .int .i64 r2], by simp [results, Try.results111, go_sem, p1, p2], by rw [Hz.out], p3⟩
end Go.Proofs.Ytjnbnhnkjhnbkaa
