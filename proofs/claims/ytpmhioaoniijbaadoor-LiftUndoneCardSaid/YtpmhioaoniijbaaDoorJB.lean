/- scaled, lifting and its closure, lifted -/
import Derived.Test.YtpmhioaoniijbaaDoorJA
import Derived.Deep.QuietTactic
import Derived.BigQuiet
import Derived.StillTailTactics
import Derived.Deep.RegionHeld3
namespace Go.Proofs.YtpmhioaoniijbaaDoor
open Go.RowKit Go.Shelf

theorem half_any (v : Int) (w : World) : Calls Tryd.prog 58 #[.int .i64 v] w fun e w' => e = .returned (.int .i64 (v / 2)) ∧ w' = w := by
  go_enter Tryd.func58, Tryd.ntmps58
  go_wp2
  go_ret
  exact ⟨rfl, rfl⟩
theorem sc_any (v : Int) (w : World) (h1 : -4611686018427387904 ≤ v) (h2 : v ≤ 4611686018427387904) : Calls Tryd.prog 93 #[.int .i64 v] w fun e w' => e = .returned (.int .i64 (sc v)) ∧ w' = w := by
  have E := Lib.hid (show (v + 8192) / 16384 = sc v from rfl)
  go_enter Tryd.func93, Tryd.ntmps93
  go_wp2
  go_ret
  exact ⟨ret_int E.out, rfl⟩
theorem lifting_in (P F S : Int) (w : World) :
    Calls Tryd.prog 90 #[.int .i64 P, .int .i64 F, .int .i64 S] w fun e w' => e = .returned (.func (.func 92) #[] #[.pointer (some ⟨w.heap.size, 0, none⟩), .pointer (some ⟨w.heap.size + 1 + 1, 0, none⟩), .pointer (some ⟨w.heap.size + 1, 0, none⟩)]) ∧
      w' = ((w.alloc (.cells #[.int .i64 P] 3)).alloc (.cells #[.int .i64 F] 3)).alloc (.cells #[.int .i64 S] 3) := by
  go_enter Tryd.func90, Tryd.ntmps90
  go_wp2
  go_ret
  exact ⟨rfl, rfl⟩
/-- The three boxes of a closure. -/
def Cap (w : World) (b0 b1 b2 : Nat) (P F S : Int) : Prop := w.cell? ⟨b0, 0, none⟩ = some (.int .i64 P) ∧ w.cell? ⟨b1, 0, none⟩ = some (.int .i64 S) ∧ w.cell? ⟨b2, 0, none⟩ = some (.int .i64 F)
theorem Cap.upd {w w' : World} {b0 b1 b2 : Nat} {P F S : Int} (h : Cap w b0 b1 b2 P F S) (u : Upd NoB w w') : Cap w' b0 b1 b2 P F S := ⟨u.cell h.1 (noB _), u.cell h.2.1 (noB _), u.cell h.2.2 (noB _)⟩
theorem boxes3 (W : World) (o0 o1 o2 : Obj) : (((W.alloc o0).alloc o1).alloc o2).heap[W.heap.size]? = some o0 ∧ (((W.alloc o0).alloc o1).alloc o2).heap[W.heap.size + 1]? = some o1 ∧ (((W.alloc o0).alloc o1).alloc o2).heap[W.heap.size + 1 + 1]? = some o2 ∧ Upd NoB W (((W.alloc o0).alloc o1).alloc o2) := by
  obtain ⟨h0, h1, u⟩ := boxes2 W o0 o1
  have s2 : ((W.alloc o0).alloc o1).heap.size = W.heap.size + 1 + 1 := by simp
  have h2 := heap_alloc_new ((W.alloc o0).alloc o1) o2
  rw [s2] at h2
  exact ⟨(Below.heap_alloc _ _ _ (lt_of_block h0)).trans h0, (Below.heap_alloc _ _ _ (lt_of_block h1)).trans h1, h2, u.alloc _⟩
set_option maxRecDepth 100000 in
set_option maxHeartbeats 2000000 in
theorem lifting0_any (F S X Y : Int) (b0 b1 b2 : Nat) (w : World) (hS : S = 1 ∨ S = -1) (f1 : -16384 ≤ F) (f2 : F ≤ 16384) (hb : Bd 1099511627776 (X, Y)) (hc : Cap w b0 b1 b2 0 F S) :
    Calls Tryd.prog 92 #[.agg #[.int .i64 X, .int .i64 Y], .pointer (some ⟨b0, 0, none⟩), .pointer (some ⟨b1, 0, none⟩), .pointer (some ⟨b2, 0, none⟩)] w fun e w' =>
      e = .returned (.agg #[.int .i64 (st0 F S (X, Y)).1, .int .i64 (st0 F S (X, Y)).2]) ∧ Upd NoB w w' := by
  obtain ⟨W, hW⟩ : ∃ W, W = (w.alloc (.cells #[.int .i64 X, .int .i64 Y] 56)).alloc (.cells #[.int .i64 0, .int .i64 0] 56) := ⟨_, rfl⟩
  obtain ⟨c0, c1, hu⟩ := boxes2 w (.cells #[.int .i64 X, .int .i64 Y] 56) (.cells #[.int .i64 0, .int .i64 0] 56)
  rw [← hW] at c0 c1 hu
  obtain ⟨k0, k1, k2⟩ := hc.upd hu
  have d0 := cell_of_block0 c0
  have d1 := cell_of_block1 c0
  have g0 := free_of_block c0 0
  have g1 := free_of_block c0 1
  have HW := Lib.hid hW; clear hW hc
  have C0 := Lib.hid c0; have C1 := Lib.hid c1; have HU := Lib.hid hu; clear c0 c1 hu
  obtain ⟨hb1, hb2, hb3, hb4⟩ := hb
  simp only at hb1 hb2 hb3 hb4
  have m := mul_bd f1 f2 hb3 hb4
  have s := sc_bd f1 f2 hb3 hb4
  obtain ⟨z, ez⟩ : ∃ z, F * Y = z := ⟨_, rfl⟩
  rw [ez] at m s
  have wz : IntKind.i64.wrap (F * Y) = z := by rw [ez]; exact IntWalk.i64_in _ (by omega)
  have wz' : wrap64 (F * Y) = z := by rw [ez]; exact IntWalk.wrap64_in _ (by omega)
  obtain ⟨q, eq⟩ : ∃ q, sc z = q := ⟨_, rfl⟩
  rw [eq] at s
  have hq := fun w => sc_any z w (by omega) (by omega)
  rw [eq] at hq
  have HQ := Lib.hid hq; clear hq
  obtain ⟨r, er⟩ : ∃ r, S * q = r := ⟨_, rfl⟩
  have hr : -1099511627777 ≤ r ∧ r ≤ 1099511627777 := by rcases hS with rfl | rfl <;> omega
  have wr : IntKind.i64.wrap (S * q) = r := by rw [er]; exact IntWalk.i64_in _ (by omega)
  have wr' : wrap64 (S * q) = r := by rw [er]; exact IntWalk.wrap64_in _ (by omega)
  have V := Lib.hid (show st0 F S (X, Y) = (X + r, Y) by unfold st0; simp only; rw [ez, eq, er])
  have i1 : IntKind.i64.wrap 1 = 1 := rfl
  have i0 : IntKind.i64.wrap 0 = 0 := rfl
  have ws : IntKind.i64.wrap (X + r) = X + r := IntWalk.i64_in _ (by omega)
  clear ez eq er hS
  go_enter Tryd.func92, Tryd.ntmps92
  go_wp2_with fail
  rw [← HW.out]
  refine wp_region_still_tail 14 (by kernel_rfl) (by kernel_rfl) ?_
  simp only [List.take_succ_cons, List.take_zero, List.drop_succ_cons, List.drop_zero]
  iterate 10 still_step
  still_call (HQ.out _)
  iterate 3 still_step
  refine wpStill_nil ?_
  change wpList _ _ _ _ _ (World.drew W)
  obtain ⟨W2, hW2⟩ : ∃ W2, W2 = W.drew := ⟨_, rfl⟩
  rw [← hW2]
  have C2 := Lib.hid (show W2.heap[w.heap.size]? = some (.cells #[.int .i64 X, .int .i64 Y] 56 (0, 0)) by rw [hW2]; exact C0.out)
  have C3 := Lib.hid (show W2.heap[w.heap.size + 1]? = some (.cells #[.int .i64 0, .int .i64 0] 56 (0, 0)) by rw [hW2]; exact C1.out)
  have U2 := Lib.hid (show Upd NoB w W2 by rw [hW2]; exact HU.out.drew)
  have d0 := cell_of_block0 C2.out
  have d1 := cell_of_block1 C2.out
  have g0 := free_of_block C2.out 0
  have g1 := free_of_block C2.out 1
  have e0 := cell_of_block0 C3.out
  have e1 := cell_of_block1 C3.out
  have h0 := free_of_block C3.out 0
  have h1 := free_of_block C3.out 1
  clear hW2
  go_wp2
  have hheap : (((W2.setCell ⟨w.heap.size, 0, none⟩ (.int .i64 (X + r))).setCell ⟨w.heap.size + 1, 0, none⟩ (.int .i64 (X + r))).setCell ⟨w.heap.size + 1, 1, none⟩ (.int .i64 (Y))).heap[w.heap.size + 1]? = some (.cells #[.int .i64 (X + r), .int .i64 (Y)] 56 (0, 0)) :=
    block_set (block_set (block_keep C3.out (by simp) _) _) _
  refine bodyPost_ret (results_cell_row rfl _ _ (w.heap.size + 1) 56 _ (0, 0) _ rfl hheap Tryd.underlying56 rfl (by kernel_rfl)) rfl ⟨by rw [V.out], ?_⟩
  exact Upd.mono (S := fun j => w.heap.size ≤ j) ((((U2.out.mono (T := fun j => w.heap.size ≤ j) (fun _ _ h => h.elim)).setCell _ (fun _ => Nat.le_refl _)).setCell _ (fun _ => Nat.le_succ _)).setCell _ (fun _ => Nat.le_succ _)) (fun j hj h => by omega)
set_option maxRecDepth 100000 in
set_option maxHeartbeats 2000000 in
theorem lifting1_any (F S X Y : Int) (b0 b1 b2 : Nat) (w : World) (hS : S = 1 ∨ S = -1) (f1 : -16384 ≤ F) (f2 : F ≤ 16384) (hb : Bd 1099511627776 (X, Y)) (hc : Cap w b0 b1 b2 1 F S) :
    Calls Tryd.prog 92 #[.agg #[.int .i64 X, .int .i64 Y], .pointer (some ⟨b0, 0, none⟩), .pointer (some ⟨b1, 0, none⟩), .pointer (some ⟨b2, 0, none⟩)] w fun e w' =>
      e = .returned (.agg #[.int .i64 (st1 F S (X, Y)).1, .int .i64 (st1 F S (X, Y)).2]) ∧ Upd NoB w w' := by
  obtain ⟨W, hW⟩ : ∃ W, W = (w.alloc (.cells #[.int .i64 X, .int .i64 Y] 56)).alloc (.cells #[.int .i64 0, .int .i64 0] 56) := ⟨_, rfl⟩
  obtain ⟨c0, c1, hu⟩ := boxes2 w (.cells #[.int .i64 X, .int .i64 Y] 56) (.cells #[.int .i64 0, .int .i64 0] 56)
  rw [← hW] at c0 c1 hu
  obtain ⟨k0, k1, k2⟩ := hc.upd hu
  have d0 := cell_of_block0 c0
  have d1 := cell_of_block1 c0
  have g0 := free_of_block c0 0
  have g1 := free_of_block c0 1
  have HW := Lib.hid hW; clear hW hc
  have C0 := Lib.hid c0; have C1 := Lib.hid c1; have HU := Lib.hid hu; clear c0 c1 hu
  obtain ⟨hb1, hb2, hb3, hb4⟩ := hb
  simp only at hb1 hb2 hb3 hb4
  have m := mul_bd f1 f2 hb1 hb2
  have s := sc_bd f1 f2 hb1 hb2
  obtain ⟨z, ez⟩ : ∃ z, F * X = z := ⟨_, rfl⟩
  rw [ez] at m s
  have wz : IntKind.i64.wrap (F * X) = z := by rw [ez]; exact IntWalk.i64_in _ (by omega)
  have wz' : wrap64 (F * X) = z := by rw [ez]; exact IntWalk.wrap64_in _ (by omega)
  obtain ⟨q, eq⟩ : ∃ q, sc z = q := ⟨_, rfl⟩
  rw [eq] at s
  have hq := fun w => sc_any z w (by omega) (by omega)
  rw [eq] at hq
  have HQ := Lib.hid hq; clear hq
  obtain ⟨r, er⟩ : ∃ r, S * q = r := ⟨_, rfl⟩
  have hr : -1099511627777 ≤ r ∧ r ≤ 1099511627777 := by rcases hS with rfl | rfl <;> omega
  have wr : IntKind.i64.wrap (S * q) = r := by rw [er]; exact IntWalk.i64_in _ (by omega)
  have wr' : wrap64 (S * q) = r := by rw [er]; exact IntWalk.wrap64_in _ (by omega)
  have V := Lib.hid (show st1 F S (X, Y) = (X, Y + r) by unfold st1; simp only; rw [ez, eq, er])
  have i1 : IntKind.i64.wrap 1 = 1 := rfl
  have i0 : IntKind.i64.wrap 0 = 0 := rfl
  have ws : IntKind.i64.wrap (Y + r) = Y + r := IntWalk.i64_in _ (by omega)
  clear ez eq er hS
  go_enter Tryd.func92, Tryd.ntmps92
  go_wp2_with fail
  rw [← HW.out]
  refine wp_region_still_tail 14 (by kernel_rfl) (by kernel_rfl) ?_
  simp only [List.take_succ_cons, List.take_zero, List.drop_succ_cons, List.drop_zero]
  iterate 10 still_step
  still_call (HQ.out _)
  iterate 3 still_step
  refine wpStill_nil ?_
  change wpList _ _ _ _ _ (World.drew W)
  obtain ⟨W2, hW2⟩ : ∃ W2, W2 = W.drew := ⟨_, rfl⟩
  rw [← hW2]
  have C2 := Lib.hid (show W2.heap[w.heap.size]? = some (.cells #[.int .i64 X, .int .i64 Y] 56 (0, 0)) by rw [hW2]; exact C0.out)
  have C3 := Lib.hid (show W2.heap[w.heap.size + 1]? = some (.cells #[.int .i64 0, .int .i64 0] 56 (0, 0)) by rw [hW2]; exact C1.out)
  have U2 := Lib.hid (show Upd NoB w W2 by rw [hW2]; exact HU.out.drew)
  have d0 := cell_of_block0 C2.out
  have d1 := cell_of_block1 C2.out
  have g0 := free_of_block C2.out 0
  have g1 := free_of_block C2.out 1
  have e0 := cell_of_block0 C3.out
  have e1 := cell_of_block1 C3.out
  have h0 := free_of_block C3.out 0
  have h1 := free_of_block C3.out 1
  clear hW2
  go_wp2
  have hheap : (((W2.setCell ⟨w.heap.size, 1, none⟩ (.int .i64 (Y + r))).setCell ⟨w.heap.size + 1, 0, none⟩ (.int .i64 (X))).setCell ⟨w.heap.size + 1, 1, none⟩ (.int .i64 (Y + r))).heap[w.heap.size + 1]? = some (.cells #[.int .i64 (X), .int .i64 (Y + r)] 56 (0, 0)) :=
    block_set (block_set (block_keep C3.out (by simp) _) _) _
  refine bodyPost_ret (results_cell_row rfl _ _ (w.heap.size + 1) 56 _ (0, 0) _ rfl hheap Tryd.underlying56 rfl (by kernel_rfl)) rfl ⟨by rw [V.out], ?_⟩
  exact Upd.mono (S := fun j => w.heap.size ≤ j) ((((U2.out.mono (T := fun j => w.heap.size ≤ j) (fun _ _ h => h.elim)).setCell _ (fun _ => Nat.le_refl _)).setCell _ (fun _ => Nat.le_succ _)).setCell _ (fun _ => Nat.le_succ _)) (fun j hj h => by omega)
theorem lifting_cap (P F S : Int) (w : World) :
    Calls Tryd.prog 90 #[.int .i64 P, .int .i64 F, .int .i64 S] w fun e w' => ∃ b0 b1 b2, e = .returned (.func (.func 92) #[] #[.pointer (some ⟨b0, 0, none⟩), .pointer (some ⟨b1, 0, none⟩), .pointer (some ⟨b2, 0, none⟩)]) ∧
      Cap w' b0 b1 b2 P F S ∧ Upd NoB w w' := by
  refine (lifting_in P F S w).mono ?_
  rintro e w' ⟨rfl, rfl⟩
  obtain ⟨h0, h1, h2, u⟩ := boxes3 w (.cells #[.int .i64 P] 3) (.cells #[.int .i64 F] 3) (.cells #[.int .i64 S] 3)
  exact ⟨_, _, _, rfl, ⟨cell_of_one h0, cell_of_one h2, cell_of_one h1⟩, u⟩
theorem cells3 {w : World} {b : Nat} {u v x : Value} {t : TypeId} (h : w.heap[b]? = some (.cells #[u, v, x] t (0, 0))) : w.cell? ⟨b, 0, none⟩ = some u ∧ w.cell? ⟨b, 1, none⟩ = some v ∧ w.cell? ⟨b, 2, none⟩ = some x := by simp [World.cell?, h]
set_option maxRecDepth 100000 in
set_option maxHeartbeats 2000000 in
theorem lifted_any (q : Nat) (A B S X Y : Int) (w : World) (hS : S = 1 ∨ S = -1) (a1 : -16384 ≤ A) (a2 : A ≤ 16384) (b1 : -16384 ≤ B) (b2 : B ≤ 16384) (hb : Bd 137438953472 (X, Y)) :
    Calls Tryd.prog 79 #[.agg #[.int .i64 q, .int .i64 A, .int .i64 B], .agg #[.int .i64 X, .int .i64 Y], .int .i64 S] w fun e w' =>
      e = .returned (.agg #[.int .i64 (liftF A B S (X, Y)).1, .int .i64 (liftF A B S (X, Y)).2]) ∧ Upd NoB w w' := by
  obtain ⟨W, hW⟩ : ∃ W, W = ((w.alloc (.cells #[.int .i64 q, .int .i64 A, .int .i64 B] 52)).alloc (.cells #[.int .i64 X, .int .i64 Y] 56)).alloc (.cells #[.int .i64 0, .int .i64 0] 56) := ⟨_, rfl⟩
  obtain ⟨c0, c1, c2, hu⟩ := boxes3 w (.cells #[.int .i64 q, .int .i64 A, .int .i64 B] 52) (.cells #[.int .i64 X, .int .i64 Y] 56) (.cells #[.int .i64 0, .int .i64 0] 56)
  rw [← hW] at c0 c1 c2 hu
  obtain ⟨d0, d1, d2⟩ := cells3 c0
  have wn : IntKind.i64.wrap (-S) = -S := IntWalk.i64_in _ (by omega)
  have wn' : wrap64 (-S) = -S := IntWalk.wrap64_in _ (by omega)
  have HW := Lib.hid hW; clear hW
  have C0 := Lib.hid c0; have C1 := Lib.hid c1; have C2 := Lib.hid c2; have HU := Lib.hid hu; clear c0 c1 c2 hu
  have KS := Lib.hid (show ∀ X : World, Upd NoB W X → X.cell? ⟨w.heap.size, 1, none⟩ = some (.int .i64 A) ∧ X.cell? ⟨w.heap.size, 2, none⟩ = some (.int .i64 B) from fun X u => by
    obtain ⟨_, h1, h2⟩ := cells3 (u.heap C0.out (noB _)); exact ⟨h1, h2⟩)
  go_enter Tryd.func79, Tryd.ntmps79
  go_wp2_with fail
  rw [← HW.out]
  go_region_held3 (fun X => X.cell? ⟨w.heap.size, 1, none⟩ = some (.int .i64 A) ∧ X.cell? ⟨w.heap.size, 2, none⟩ = some (.int .i64 B)) (first | exact ⟨d1, d2⟩ | exact KS.out _ (by exact TB.out) | exact KS.out _ (by exact TA.out) | go_keep)
    (first | (go_at_call 90; (with_reducible refine (lifting_cap 0 A (-S) _).mono ?_); rintro e wa ⟨x0, x1, x2, rfl, ca, ua⟩; have TA := Lib.hid (Upd.then TB.out ua); have CA := Lib.hid ca; have UA := Lib.hid ua; clear ca ua) | (go_at_call 90; (with_reducible refine (lifting_cap 1 B S _).mono ?_); rintro e wb ⟨y0, y1, y2, rfl, cb, ub⟩; have TB := Lib.hid (Upd.then TA.out ub); have CB := Lib.hid cb; have UB := Lib.hid ub; clear cb ub) | (go_at_call 90; (with_reducible refine (lifting_cap 0 A (-S) _).mono ?_); rintro e wa ⟨x0, x1, x2, rfl, ca, ua⟩; have TA := Lib.hid (Upd.then (Upd.refl NoB W).drew ua); have CA := Lib.hid ca; have UA := Lib.hid ua; clear ca ua) | (go_at_call 90; (with_reducible refine (lifting_cap 1 B S _).mono ?_); rintro e wb ⟨y0, y1, y2, rfl, cb, ub⟩; have TB := Lib.hid (Upd.then (Upd.refl NoB W).drew ub); have CB := Lib.hid cb; have UB := Lib.hid ub; clear cb ub))
  have CA2 := Lib.hid (CA.out.upd UB.out)
  have C1b := TB.out.heap C1.out (noB _)
  have e0 := cell_of_block0 C1b
  have e1 := cell_of_block1 C1b
  have hSn : -S = 1 ∨ -S = -1 := by omega
  have p1 := st0_bd hSn a1 a2 hb
  obtain ⟨X1, Y1, E1⟩ : ∃ X1 Y1, st0 A (-S) (X, Y) = (X1, Y1) := ⟨_, _, rfl⟩
  have p2 := st1_bd hS b1 b2 p1
  rw [E1] at p1 p2
  obtain ⟨X2, Y2, E2⟩ : ∃ X2 Y2, st1 B S (X1, Y1) = (X2, Y2) := ⟨_, _, rfl⟩
  rw [E2] at p2
  have R := Lib.hid (show st0 A (-S) (X2, Y2) = liftF A B S (X, Y) by unfold liftF; rw [E1, E2])
  have H1 := Lib.hid (fun w' (u : Upd NoB wb w') => lifting0_any A (-S) X Y x0 x1 x2 w' hSn a1 a2 (hb.mono (by omega)) (CA2.out.upd u))
  have H2 := Lib.hid (fun w' (u : Upd NoB wb w') => lifting1_any B S X1 Y1 y0 y1 y2 w' hS b1 b2 (p1.mono (by omega)) (CB.out.upd u))
  have H3 := Lib.hid (fun w' (u : Upd NoB wb w') => lifting0_any A (-S) X2 Y2 x0 x1 x2 w' hSn a1 a2 (p2.mono (by omega)) (CA2.out.upd u))
  clear C1b hb p1 p2
  have EE1 := Lib.hid E1; have EE2 := Lib.hid E2; clear E1 E2
  have C2b := Lib.hid (TB.out.heap C2.out (noB _))
  go_wp2_with fail
  refine (H1.out _ (Upd.refl _ _)).mono ?_
  rintro e w3 ⟨rfl, u3⟩
  rw [EE1.out]
  have U3 := Lib.hid u3; clear u3
  go_wp2_with fail
  refine (H2.out _ U3.out).mono ?_
  rintro e w4 ⟨rfl, u4⟩
  rw [EE2.out]
  have U4 := Lib.hid (U3.out.then u4); clear u4
  go_wp2_with fail
  refine (H3.out _ U4.out).mono ?_
  rintro e w5 ⟨rfl, u5⟩
  rw [R.out]
  have U5 := Lib.hid (U4.out.then u5); clear u5
  have C5 := Lib.hid (U5.out.heap C2b.out (noB _))
  have g0 := cell_of_block0 C5.out
  have g1 := cell_of_block1 C5.out
  have h0 := free_of_block C5.out 0
  have h1 := free_of_block C5.out 1
  obtain ⟨x, hx⟩ : ∃ x, (liftF A B S (X, Y)).1 = x := ⟨_, rfl⟩
  obtain ⟨y, hy⟩ : ∃ y, (liftF A B S (X, Y)).2 = y := ⟨_, rfl⟩
  have Hx := Lib.hid hx; have Hy := Lib.hid hy
  rw [hx, hy]
  clear hx hy
  go_wp2
  have hheap : ((w5.setCell ⟨w.heap.size + 1 + 1, 0, none⟩ (.int .i64 x)).setCell ⟨w.heap.size + 1 + 1, 1, none⟩ (.int .i64 y)).heap[w.heap.size + 1 + 1]? = some (.cells #[.int .i64 x, .int .i64 y] 56 (0, 0)) :=
    block_set (block_set C5.out _) _
  refine bodyPost_ret (results_cell_row rfl _ _ (w.heap.size + 1 + 1) 56 _ (0, 0) _ rfl hheap Tryd.underlying56 rfl (by kernel_rfl)) rfl ⟨by rw [Hx.out, Hy.out], ?_⟩
  exact Upd.mono (S := fun j => w.heap.size ≤ j) (((((HU.out.then TB.out).then U5.out).mono (T := fun j => w.heap.size ≤ j) (fun _ _ h => h.elim)).setCell _ (fun _ => Nat.le_trans (Nat.le_succ _) (Nat.le_succ _))).setCell _ (fun _ => Nat.le_trans (Nat.le_succ _) (Nat.le_succ _))) (fun j hj h => by omega)
end Go.Proofs.YtpmhioaoniijbaaDoor
