/- quant: with, ladderOf -/
import Derived.Test.YteioaeceobgbdaaQB
namespace Go.Proofs.Yteioaeceobgbdaa
open Go.RowKit Go.Shelf

theorem boxes2 (W : World) (o0 o1 : Obj) : ((W.alloc o0).alloc o1).heap[W.heap.size]? = some o0 ∧ ((W.alloc o0).alloc o1).heap[W.heap.size + 1]? = some o1 ∧ Upd NoB W ((W.alloc o0).alloc o1) := by
  have s1 : (W.alloc o0).heap.size = W.heap.size + 1 := by simp
  have h1 := heap_alloc_new (W.alloc o0) o1
  rw [s1] at h1
  exact ⟨(Below.heap_alloc _ _ _ (by omega)).trans (heap_alloc_new W _), h1, ((Upd.refl _ _).alloc _).alloc _⟩
set_option maxRecDepth 100000 in
set_option maxHeartbeats 2000000 in
theorem with_any (sc st : Int) (pa : Option Addr) (s : Nat) (w : World) (hs : s ≤ 95) : Calls Try.prog 66 #[.agg #[.int .i64 sc, .int .i64 st, .pointer pa], .int .i64 (s : Int)] w fun e w' => e = .returned (.agg #[.int .i64 (s : Int), .int .i64 (stepN s : Nat), .pointer pa]) ∧ Upd NoB w w' := by
  have HS := Lib.hid (fun W => Step_any (s : Int) W)
  rw [stE_zero hs] at HS
  have HS2 := Lib.hid (fun W => (show Calls Try.prog 105 #[.int .i64 (s : Int)] W fun e w' => e = .returned (.tuple #[.int .i64 (stepN s : Nat), .int .i64 0]) ∧ Upd NoB W w' from HS.out W))
  obtain ⟨W, hW⟩ : ∃ W, W = (w.alloc (.cells #[.int .i64 (s : Int), .int .i64 st, .pointer pa] 57)).alloc (.cells #[.int .i64 0, .int .i64 0, .pointer none] 57) := ⟨_, rfl⟩
  obtain ⟨c0, c1, hu⟩ := boxes2 w (.cells #[.int .i64 (s : Int), .int .i64 st, .pointer pa] 57) (.cells #[.int .i64 0, .int .i64 0, .pointer none] 57)
  rw [← hW] at c0 c1 hu
  obtain ⟨⟨d0, d1, d2⟩, f0, f1, f2⟩ := cells3 c0
  have HW := Lib.hid hW; have C0 := Lib.hid c0; have C1 := Lib.hid c1; have HU := Lib.hid hu
  generalize stepN s = t at *
  obtain ⟨B, hB⟩ : ∃ B, w.heap.size = B := ⟨_, rfl⟩
  have HB := Lib.hid hB
  rw [hB] at c0 c1 d0 d1 d2 f0 f1 f2 C0 C1
  have k1 := c0
  have k2 := c1
  have K1 := Lib.hid k1; have K2 := Lib.hid k2
  clear hW c0 c1 hu hs HS k1 k2 hB
  go_enter Try.func66, Try.ntmps66
  go_wp2_with fail
  rw [← HW.out, HB.out]
  refine (HS2.out _).mono ?_
  rintro e w2 ⟨rfl, u2⟩
  have e1 := u2.heap K1.out (noB _)
  have e2 := u2.heap K2.out (noB _)
  obtain ⟨⟨g0, g1, g2⟩, h0, h1, h2⟩ := cells3 e1
  have us3 : Upd (fun j => j = B) w2 (w2.setCell ⟨B, 1, none⟩ (.int .i64 (t : Nat))) := (Upd.refl _ _).setCell _ (fun _ => rfl)
  have e3 : (w2.setCell ⟨B, 1, none⟩ (.int .i64 (t : Nat))).heap[B]? = some (.cells #[.int .i64 (s : Int), .int .i64 (t : Nat), .pointer pa] 57 (0, 0)) := block_set e1 _
  have e4 := us3.heap e2 (show ¬ (B + 1 = B) by omega)
  obtain ⟨⟨i0, i1, i2⟩, _, _, _⟩ := cells3 e3
  obtain ⟨⟨j0, j1, j2⟩, l0, l1, l2⟩ := cells3 e4
  have E4 := Lib.hid e4
  have UF := Lib.hid (show Upd (fun j => B ≤ j) w (w2.setCell ⟨B, 1, none⟩ (.int .i64 (t : Nat))) from (HU.out.mono (T := fun j => B ≤ j) (fun _ _ h => h.elim)) |>.trans (u2.mono (T := fun j => B ≤ j) (fun _ _ h => h.elim)) (fun _ _ h => h) |>.trans us3 (fun j _ h => by show B ≤ j; have h : j = B := h; omega))
  clear u2 e1 e2 e3 e4 us3 d0 d1 d2 f0 f1 f2
  go_wp2_with fail
  have hheap : ((((w2.setCell ⟨B, 1, none⟩ (.int .i64 (t : Nat))).setCell ⟨B + 1, 0, none⟩ (.int .i64 (s : Int))).setCell ⟨B + 1, 1, none⟩ (.int .i64 (t : Nat))).setCell ⟨B + 1, 2, none⟩ (.pointer pa)).heap[B + 1]? = some (.cells #[.int .i64 (s : Int), .int .i64 (t : Nat), .pointer pa] 57 (0, 0)) := block_set (block_set (block_set E4.out _) _) _
  refine bodyPost_ret (results_cell_row rfl _ _ (B + 1) 57 _ (0, 0) _ rfl hheap Try.underlying57 rfl (by kernel_rfl)) rfl ⟨rfl, ?_⟩
  refine Upd.mono (S := fun j => B ≤ j) (((UF.out.setCell _ (fun _ => Nat.le_succ _)).setCell _ (fun _ => Nat.le_succ _)).setCell _ (fun _ => Nat.le_succ _)) (fun j hj h => ?_)
  have := HB.out
  have h : B ≤ j := h
  omega
set_option maxRecDepth 100000 in
theorem zeros_pow : Try.zeroCells93 = (i64s (List.replicate 1024 0)).toArray := by kernel_rfl
theorem memo_new {w : World} {b : Nat} (h : w.heap[b]? = some (.cells Try.zeroCells93 93 (0, 0))) : Memo w b := by
  rw [zeros_pow] at h
  refine ⟨_, h, List.length_replicate, fun q v hv => ?_⟩
  rw [List.getElem?_replicate] at hv
  split at hv
  · injection hv with hv; exact .inl hv.symm
  · cases hv
set_option maxRecDepth 100000 in
set_option maxHeartbeats 2000000 in
theorem ladderOf_any (s : Nat) (w : World) (hs : s ≤ 95) : Calls Try.prog 46 #[.int .i64 (s : Int)] w fun e w' => ∃ b, e = .returned (.agg #[.int .i64 (s : Int), .int .i64 (stepN s : Nat), .pointer (some ⟨b, 0, none⟩)]) ∧ w.heap.size ≤ b ∧ Memo w' b ∧ Upd NoB w w' := by
  have HWi := Lib.hid (fun sc st pa W => with_any sc st pa s W hs)
  obtain ⟨W, hW⟩ : ∃ W, W = (w.alloc (.cells #[.int .i64 0, .int .i64 0, .pointer none] 57)).alloc (.cells Try.zeroCells93 93) := ⟨_, rfl⟩
  obtain ⟨c0, c1, hu⟩ := boxes2 w (.cells #[.int .i64 0, .int .i64 0, .pointer none] 57) (.cells Try.zeroCells93 93)
  rw [← hW] at c0 c1 hu
  have HW := Lib.hid hW; have C0 := Lib.hid c0; have HU := Lib.hid hu
  have HM := Lib.hid (memo_new c1)
  generalize stepN s = t at *
  obtain ⟨B, hB⟩ : ∃ B, w.heap.size = B := ⟨_, rfl⟩
  have HB := Lib.hid hB
  rw [hB] at C0 HM
  clear hW c0 c1 hu hs hB
  go_enter Try.func46, Try.ntmps46
  go_wp2_with fail
  rw [← HW.out, HB.out]
  refine (HWi.out _ _ _ _).mono ?_
  rintro e w2 ⟨rfl, u2⟩
  have e1 := u2.heap C0.out (noB _)
  obtain ⟨⟨j0, j1, j2⟩, l0, l1, l2⟩ := cells3 e1
  have E1 := Lib.hid e1
  have M2 := Lib.hid (HM.out.later u2)
  have U2 := Lib.hid (HU.out.then u2)
  clear u2 e1
  go_wp2_with fail
  have us : Upd (fun j => j = B) w2 (((w2.setCell ⟨B, 0, none⟩ (.int .i64 (s : Int))).setCell ⟨B, 1, none⟩ (.int .i64 (t : Nat))).setCell ⟨B, 2, none⟩ (.pointer (some ⟨B + 1, 0, none⟩))) := (((Upd.refl (fun j => j = B) w2).setCell (p := ⟨B, 0, none⟩) _ (fun _ => rfl)).setCell (p := ⟨B, 1, none⟩) _ (fun _ => rfl)).setCell (p := ⟨B, 2, none⟩) _ (fun _ => rfl)
  have hheap : (((w2.setCell ⟨B, 0, none⟩ (.int .i64 (s : Int))).setCell ⟨B, 1, none⟩ (.int .i64 (t : Nat))).setCell ⟨B, 2, none⟩ (.pointer (some ⟨B + 1, 0, none⟩))).heap[B]? = some (.cells #[.int .i64 (s : Int), .int .i64 (t : Nat), .pointer (some ⟨B + 1, 0, none⟩)] 57 (0, 0)) := block_set (block_set (block_set E1.out _) _) _
  refine bodyPost_ret (results_cell_row rfl _ _ B 57 _ (0, 0) _ rfl hheap Try.underlying57 rfl (by kernel_rfl)) rfl ⟨B + 1, rfl, ?_, M2.out.upd us (fun e => by have e : B + 1 = B := e; omega), U2.out.trans us (fun j hj e => by have := HB.out; have e : j = B := e; omega)⟩
  have := HB.out
  omega
end Go.Proofs.Yteioaeceobgbdaa
