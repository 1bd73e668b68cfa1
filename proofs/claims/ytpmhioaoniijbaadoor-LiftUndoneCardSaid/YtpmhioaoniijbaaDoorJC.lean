/- the turns forth and back -/
import Derived.Test.YtpmhioaoniijbaaDoorJB
namespace Go.Proofs.YtpmhioaoniijbaaDoor
open Go.RowKit Go.Shelf

set_option maxRecDepth 100000 in
set_option maxHeartbeats 2000000 in
theorem forth_any (q : Nat) (A B X Y : Int) (w : World) (hq : q ≤ 4) (a1 : -16384 ≤ A) (a2 : A ≤ 16384) (b1 : -16384 ≤ B) (b2 : B ≤ 16384) (hb : Bd 137438953472 (X, Y)) :
    Calls Tryd.prog 52 #[.agg #[.int .i64 q, .int .i64 A, .int .i64 B], .agg #[.int .i64 X, .int .i64 Y]] w fun e w' =>
      e = .returned (.agg #[.int .i64 (forthF q A B (X, Y)).1, .int .i64 (forthF q A B (X, Y)).2]) ∧ Upd NoB w w' := by
  obtain ⟨W, hW⟩ : ∃ W, W = ((w.alloc (.cells #[.int .i64 q, .int .i64 A, .int .i64 B] 52)).alloc (.cells #[.int .i64 X, .int .i64 Y] 56)).alloc (.cells #[.int .i64 0, .int .i64 0] 56) := ⟨_, rfl⟩
  obtain ⟨c0, c1, c2, hu⟩ := boxes3 w (.cells #[.int .i64 q, .int .i64 A, .int .i64 B] 52) (.cells #[.int .i64 X, .int .i64 Y] 56) (.cells #[.int .i64 0, .int .i64 0] 56)
  rw [← hW] at c0 c1 c2 hu
  obtain ⟨d0, d1, d2⟩ := cells3 c0
  have HW := Lib.hid hW; clear hW
  have C0 := Lib.hid c0; have C1 := Lib.hid c1; have C2 := Lib.hid c2; have HU := Lib.hid hu; have HB := Lib.hid hb; clear c0 c1 c2 hu hb
  go_enter Tryd.func52, Tryd.ntmps52
  go_wp2_with fail
  rw [← HW.out]
  go_wp2_with fail
  go_loopw [7] (fun kv wr => ∃ k : Nat, kv = .int .i64 k ∧ k ≤ q ∧ wr.heap[w.heap.size + 1]? = some (.cells #[.int .i64 (rot (X, Y) k).1, .int .i64 (rot (X, Y) k).2] 56 (0, 0)) ∧ Upd (fun j => j = w.heap.size + 1) W wr) (fun kv _ => 5 - (intOf kv).toNat)
  case atStart => exact ⟨0, rfl, Nat.zero_le _, C1.out, Upd.refl _ _⟩
  case round =>
    obtain ⟨k, rfl, hk, hc, hu⟩ := hrel
    obtain ⟨wo, rfl⟩ : ∃ wo : World, wo = wr := ⟨_, rfl⟩
    have d0 := cell_of_block0 hc
    have d1 := cell_of_block1 hc
    have f0 := free_of_block hc 0
    have f1 := free_of_block hc 1
    have hsm := rot_bd HB.out k
    have hnext : rot (X, Y) (k + 1) = (-(rot (X, Y) k).2, (rot (X, Y) k).1) := rfl
    have Hnext := Lib.hid hnext; clear hnext
    have Hc := Lib.hid hc; have Hu := Lib.hid hu; clear hc hu
    obtain ⟨x, hx⟩ : ∃ x, (rot (X, Y) k).1 = x := ⟨_, rfl⟩
    obtain ⟨y, hy⟩ : ∃ y, (rot (X, Y) k).2 = y := ⟨_, rfl⟩
    unfold Bd at hsm
    rw [hx, hy] at hsm
    rw [hx] at d0 Hc Hnext
    rw [hy] at d1 Hc Hnext
    have Hx := Lib.hid hx; have Hy := Lib.hid hy; clear hx hy
    by_cases hlt : k < q
    · go_wp2
      go_roundw
      case rel =>
        refine ⟨k + 1, by go_num, by omega, ?_, (Hu.out.setCell _ (fun _ => rfl)).setCell _ (fun _ => rfl)⟩
        rw [Hnext.out]
        exact block_set (block_set Hc.out _) _
      case measure => simp [intOf]; omega
    · obtain rfl : k = q := by omega
      have q0 := Hu.out.heap C0.out (by omega)
      obtain ⟨e0, e1, e2⟩ := cells3 q0
      have R := Lib.hid (show liftF A B 1 (x, y) = forthF k A B (X, Y) by unfold forthF; rw [← Hx.out, ← Hy.out])
      have C2b := Lib.hid (Hu.out.heap C2.out (by omega))
      clear q0
      go_wp2_with fail
      refine (lifted_any k A B 1 x y _ (.inl rfl) a1 a2 b1 b2 ⟨hsm.1, hsm.2.1, hsm.2.2.1, hsm.2.2.2⟩).mono ?_
      rintro e w5 ⟨rfl, u5⟩
      rw [R.out]
      have U5 := Lib.hid u5; clear u5
      have C5 := Lib.hid (U5.out.heap C2b.out (noB _))
      have g0 := cell_of_block0 C5.out
      have g1 := cell_of_block1 C5.out
      have h0 := free_of_block C5.out 0
      have h1 := free_of_block C5.out 1
      obtain ⟨x2, hx2⟩ : ∃ x2, (forthF k A B (X, Y)).1 = x2 := ⟨_, rfl⟩
      obtain ⟨y2, hy2⟩ : ∃ y2, (forthF k A B (X, Y)).2 = y2 := ⟨_, rfl⟩
      have Hx2 := Lib.hid hx2; have Hy2 := Lib.hid hy2
      rw [hx2, hy2]
      clear hx2 hy2 R
      go_wp2
      have hheap : ((w5.setCell ⟨w.heap.size + 1 + 1, 0, none⟩ (.int .i64 x2)).setCell ⟨w.heap.size + 1 + 1, 1, none⟩ (.int .i64 y2)).heap[w.heap.size + 1 + 1]? = some (.cells #[.int .i64 x2, .int .i64 y2] 56 (0, 0)) :=
        block_set (block_set C5.out _) _
      refine bodyPost_ret (results_cell_row rfl _ _ (w.heap.size + 1 + 1) 56 _ (0, 0) _ rfl hheap Tryd.underlying56 rfl (by kernel_rfl)) rfl ⟨by rw [Hx2.out, Hy2.out], ?_⟩
      have s := HU.out.size
      refine Upd.mono (S := fun j => w.heap.size ≤ j) (((((HU.out.mono (T := fun j => w.heap.size ≤ j) (fun _ _ h => h.elim)).trans Hu.out (fun j _ h => by omega)).then U5.out).setCell _ (fun _ => ?_)).setCell _ (fun _ => ?_)) (fun j hj h => by omega)
      all_goals (simp only; omega)
set_option maxRecDepth 100000 in
set_option maxHeartbeats 2000000 in
theorem back_any (q : Nat) (A B X Y : Int) (w : World) (hq : q ≤ 4) (a1 : -16384 ≤ A) (a2 : A ≤ 16384) (b1 : -16384 ≤ B) (b2 : B ≤ 16384) (hb : Bd 137438953472 (X, Y)) :
    Calls Tryd.prog 56 #[.agg #[.int .i64 q, .int .i64 A, .int .i64 B], .agg #[.int .i64 X, .int .i64 Y]] w fun e w' =>
      e = .returned (.agg #[.int .i64 (backF q A B (X, Y)).1, .int .i64 (backF q A B (X, Y)).2]) ∧ Upd NoB w w' := by
  obtain ⟨W, hW⟩ : ∃ W, W = ((w.alloc (.cells #[.int .i64 q, .int .i64 A, .int .i64 B] 52)).alloc (.cells #[.int .i64 X, .int .i64 Y] 56)).alloc (.cells #[.int .i64 0, .int .i64 0] 56) := ⟨_, rfl⟩
  obtain ⟨c0, c1, c2, hu⟩ := boxes3 w (.cells #[.int .i64 q, .int .i64 A, .int .i64 B] 52) (.cells #[.int .i64 X, .int .i64 Y] 56) (.cells #[.int .i64 0, .int .i64 0] 56)
  rw [← hW] at c0 c1 c2 hu
  obtain ⟨d0, d1, d2⟩ := cells3 c0
  have x0 := cell_of_block0 c1
  have x1 := cell_of_block1 c1
  have HW := Lib.hid hW; clear hW
  have C0 := Lib.hid c0; have C1 := Lib.hid c1; have C2 := Lib.hid c2; have HU := Lib.hid hu; clear c0 c1 c2 hu
  have hb2 := lift_bd (S := -1) (.inr rfl) a1 a2 b1 b2 hb
  have HL := Lib.hid (lifted_any q A B (-1) X Y W (.inr rfl) a1 a2 b1 b2 hb)
  obtain ⟨X1, Y1, E1⟩ : ∃ X1 Y1, liftF A B (-1) (X, Y) = (X1, Y1) := ⟨_, _, rfl⟩
  rw [E1] at hb2 HL
  have HB := Lib.hid hb2; have R := Lib.hid (show rotB (X1, Y1) q = backF q A B (X, Y) by unfold backF; rw [E1])
  clear hb hb2 E1
  go_enter Tryd.func56, Tryd.ntmps56
  go_wp2_with fail
  rw [← HW.out]
  go_wp2_with fail
  refine HL.out.mono ?_
  rintro e W3 ⟨rfl, u3⟩
  have C1b := u3.heap C1.out (noB _)
  have g0 := cell_of_block0 C1b
  have g1 := cell_of_block1 C1b
  have h0 := free_of_block C1b 0
  have h1 := free_of_block C1b 1
  obtain ⟨t0, _, _⟩ := cells3 (u3.heap C0.out (noB _))
  obtain ⟨W4, hW4⟩ : ∃ W4, W4 = (W3.setCell ⟨w.heap.size + 1, 0, none⟩ (.int .i64 X1)).setCell ⟨w.heap.size + 1, 1, none⟩ (.int .i64 Y1) := ⟨_, rfl⟩
  have u4 : Upd (fun j => j = w.heap.size + 1) W3 W4 := by rw [hW4]; exact ((Upd.refl (fun j => j = w.heap.size + 1) W3).setCell _ (fun _ => rfl)).setCell _ (fun _ => rfl)
  have s1 : W4.heap[w.heap.size + 1]? = some (.cells #[.int .i64 X1, .int .i64 Y1] 56 (0, 0)) := by rw [hW4]; exact block_set (block_set C1b _) _
  have s0 := u4.heap (u3.heap C0.out (noB _)) (by omega)
  have s2 := u4.heap (u3.heap C2.out (noB _)) (by omega)
  obtain ⟨k0, k1, k2⟩ := cells3 s0
  have HW4 := Lib.hid hW4; have S1 := Lib.hid s1; have S0 := Lib.hid s0; have S2 := Lib.hid s2
  have U4 := Lib.hid (Upd.trans (S := fun j => w.heap.size ≤ j) ((HU.out.then u3).mono (fun _ _ h => h.elim)) u4 (fun j _ h => by omega))
  clear u3 u4 C1b s1 s0 s2 hW4
  go_wp2_with fail
  rw [← HW4.out]
  clear HW4
  go_wp2_with fail
  go_loopw [10] (fun kv wr => ∃ k : Nat, kv = .int .i64 k ∧ k ≤ q ∧ wr.heap[w.heap.size + 1]? = some (.cells #[.int .i64 (rotB (X1, Y1) k).1, .int .i64 (rotB (X1, Y1) k).2] 56 (0, 0)) ∧ Upd (fun j => j = w.heap.size + 1) W4 wr) (fun kv _ => 5 - (intOf kv).toNat)
  case atStart => exact ⟨0, rfl, Nat.zero_le _, S1.out, Upd.refl _ _⟩
  case round =>
    obtain ⟨k, rfl, hk, hc, hu⟩ := hrel
    obtain ⟨wo, rfl⟩ : ∃ wo : World, wo = wr := ⟨_, rfl⟩
    have d0 := cell_of_block0 hc
    have d1 := cell_of_block1 hc
    have f0 := free_of_block hc 0
    have f1 := free_of_block hc 1
    have hsm := rotB_bd HB.out k
    have hnext : rotB (X1, Y1) (k + 1) = ((rotB (X1, Y1) k).2, -(rotB (X1, Y1) k).1) := rfl
    have Hnext := Lib.hid hnext; clear hnext
    have Hc := Lib.hid hc; have Hu := Lib.hid hu; clear hc hu
    obtain ⟨x, hx⟩ : ∃ x, (rotB (X1, Y1) k).1 = x := ⟨_, rfl⟩
    obtain ⟨y, hy⟩ : ∃ y, (rotB (X1, Y1) k).2 = y := ⟨_, rfl⟩
    unfold Bd at hsm
    rw [hx, hy] at hsm
    rw [hx] at d0 Hc Hnext
    rw [hy] at d1 Hc Hnext
    have Hx := Lib.hid hx; have Hy := Lib.hid hy; clear hx hy
    by_cases hlt : k < q
    · go_wp2
      go_roundw
      case rel =>
        refine ⟨k + 1, by go_num, by omega, ?_, (Hu.out.setCell _ (fun _ => rfl)).setCell _ (fun _ => rfl)⟩
        rw [Hnext.out]
        exact block_set (block_set Hc.out _) _
      case measure => simp [intOf]; omega
    · obtain rfl : k = q := by omega
      have C5 := Lib.hid (Hu.out.heap S2.out (by omega))
      have g0 := cell_of_block0 C5.out
      have g1 := cell_of_block1 C5.out
      have h0 := free_of_block C5.out 0
      have h1 := free_of_block C5.out 1
      go_wp2
      have hheap : ((wo.setCell ⟨w.heap.size + 1 + 1, 0, none⟩ (.int .i64 x)).setCell ⟨w.heap.size + 1 + 1, 1, none⟩ (.int .i64 y)).heap[w.heap.size + 1 + 1]? = some (.cells #[.int .i64 x, .int .i64 y] 56 (0, 0)) :=
        block_set (block_set C5.out _) _
      refine bodyPost_ret (results_cell_row rfl _ _ (w.heap.size + 1 + 1) 56 _ (0, 0) _ rfl hheap Tryd.underlying56 rfl (by kernel_rfl)) rfl ⟨by rw [← R.out, Hx.out, Hy.out], ?_⟩
      have s := HU.out.size
      refine Upd.mono (S := fun j => w.heap.size ≤ j) (((U4.out.trans Hu.out (fun j _ h => by omega)).setCell _ (fun _ => ?_)).setCell _ (fun _ => ?_)) (fun j hj h => by omega)
      all_goals (simp only; omega)
end Go.Proofs.YtpmhioaoniijbaaDoor
