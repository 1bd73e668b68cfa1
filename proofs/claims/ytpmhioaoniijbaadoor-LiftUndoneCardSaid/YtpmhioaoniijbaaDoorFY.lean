/- quarters, the circle of the program, Sin and Cos -/
import Derived.Test.YtpmhioaoniijbaaDoorFX
import Derived.Deep.QuietTactic
import Derived.BigQuiet
import Derived.StillTailTactics
namespace Go.Proofs.YtpmhioaoniijbaaDoor
open Go.RowKit Go.Shelf

def rot (p : Int × Int) : Nat → Int × Int
  | 0 => p
  | k + 1 => (-(rot p k).2, (rot p k).1)
def Small (p : Int × Int) : Prop := -4294967296 ≤ p.1 ∧ p.1 ≤ 4294967296 ∧ -4294967296 ≤ p.2 ∧ p.2 ≤ 4294967296
theorem rot_small {p : Int × Int} (h : Small p) : ∀ k, Small (rot p k)
  | 0 => h
  | k + 1 => by
    have := rot_small h k
    unfold Small at *
    unfold rot
    omega
theorem quarters_in (q : Int) (w : World) :
    Calls Tryd.prog 65 #[.int .i64 q] w fun e w' => e = .returned (.func (.func 86) #[] #[.pointer (some ⟨w.heap.size, 0, none⟩)]) ∧ w' = w.alloc (.cells #[.int .i64 q] 3) := by
  go_enter Tryd.func65, Tryd.ntmps65
  go_wp2
  go_ret
  exact ⟨rfl, rfl⟩
theorem boxes2 (W : World) (o0 o1 : Obj) : ((W.alloc o0).alloc o1).heap[W.heap.size]? = some o0 ∧ ((W.alloc o0).alloc o1).heap[W.heap.size + 1]? = some o1 ∧ Upd NoB W ((W.alloc o0).alloc o1) := by
  have s1 : (W.alloc o0).heap.size = W.heap.size + 1 := by simp
  have h1 := heap_alloc_new (W.alloc o0) o1
  rw [s1] at h1
  exact ⟨(Below.heap_alloc _ _ _ (by omega)).trans (heap_alloc_new W _), h1, ((Upd.refl _ _).alloc _).alloc _⟩
set_option maxRecDepth 100000 in
set_option maxHeartbeats 2000000 in
theorem quarters1_any (q : Nat) (X Y : Int) (b : Nat) (w : World) (hq : q ≤ 3) (hs : Small (X, Y)) (hb : w.heap[b]? = some (.cells #[.int .i64 q] 3 (0, 0))) :
    Calls Tryd.prog 86 #[.agg #[.int .i64 X, .int .i64 Y], .pointer (some ⟨b, 0, none⟩)] w fun e w' => e = .returned (.agg #[.int .i64 (rot (X, Y) q).1, .int .i64 (rot (X, Y) q).2]) ∧ Upd NoB w w' := by
  obtain ⟨W, hW⟩ : ∃ W, W = (w.alloc (.cells #[.int .i64 X, .int .i64 Y] 46)).alloc (.cells #[.int .i64 0, .int .i64 0] 46) := ⟨_, rfl⟩
  obtain ⟨b0, b1, hu⟩ := boxes2 w (.cells #[.int .i64 X, .int .i64 Y] 46) (.cells #[.int .i64 0, .int .i64 0] 46)
  rw [← hW] at b0 b1 hu
  have hbl := lt_of_block hb
  have hcb : ((w.alloc (.cells #[.int .i64 X, .int .i64 Y] 46)).alloc (.cells #[.int .i64 0, .int .i64 0] 46)).cell? ⟨b, 0, none⟩ = some (.int .i64 q) := by rw [← hW]; exact cell_of_one (hu.heap hb (noB _))
  have hcw := cell_of_one hb
  have HW := Lib.hid hW; clear hW
  have B0 := Lib.hid b0; have B1 := Lib.hid b1; have HU := Lib.hid hu; have HS := Lib.hid hs; clear b0 b1 hu hb hs
  go_enter Tryd.func86, Tryd.ntmps86
  go_wp2_with fail
  rw [← HW.out]
  go_wp2_with fail
  go_loopw [5] (fun kv wr => ∃ k : Nat, kv = .int .i64 k ∧ k ≤ q ∧ wr.heap[w.heap.size]? = some (.cells #[.int .i64 (rot (X, Y) k).1, .int .i64 (rot (X, Y) k).2] 46 (0, 0)) ∧ Upd (fun j => j = w.heap.size) W wr) (fun kv _ => 4 - (intOf kv).toNat)
  case atStart => exact ⟨0, rfl, Nat.zero_le _, B0.out, Upd.refl _ _⟩
  case round =>
    obtain ⟨k, rfl, hk, hc, hu⟩ := hrel
    obtain ⟨wo, rfl⟩ : ∃ wo : World, wo = wr := ⟨_, rfl⟩
    have d0 := cell_of_block0 hc
    have d1 := cell_of_block1 hc
    have f0 := free_of_block hc 0
    have f1 := free_of_block hc 1
    have hsm := rot_small HS.out k
    have hnext : rot (X, Y) (k + 1) = (-(rot (X, Y) k).2, (rot (X, Y) k).1) := rfl
    have Hnext := Lib.hid hnext; clear hnext
    have Hc := Lib.hid hc; have Hu := Lib.hid hu; clear hc hu
    obtain ⟨x, hx⟩ : ∃ x, (rot (X, Y) k).1 = x := ⟨_, rfl⟩
    obtain ⟨y, hy⟩ : ∃ y, (rot (X, Y) k).2 = y := ⟨_, rfl⟩
    unfold Small at hsm
    rw [hx, hy] at hsm
    rw [hx] at d0 Hc Hnext
    rw [hy] at d1 Hc Hnext
    have Hx := Lib.hid hx; have Hy := Lib.hid hy; clear hx hy
    by_cases hlt : k < q
    · go_wp2
      go_roundw
      case rel =>
        refine ⟨k + 1, by go_num, by omega, ?_, (Hu.out.setCell _ (fun _ => rfl)).setCell _ (fun _ => rfl)⟩
        rw [Hnext.out]
        exact block_set (block_set Hc.out _) _
      case measure => simp [intOf]; omega
    · obtain rfl : k = q := by omega
      have hr := Hu.out.heap B1.out (by omega)
      have e0 := cell_of_block0 hr
      have e1 := cell_of_block1 hr
      have g0 := free_of_block hr 0
      have g1 := free_of_block hr 1
      have Hr := Lib.hid hr; clear hr
      go_wp2
      have hheap : ((wo.setCell ⟨w.heap.size + 1, 0, none⟩ (.int .i64 x)).setCell ⟨w.heap.size + 1, 1, none⟩ (.int .i64 y)).heap[w.heap.size + 1]? = some (.cells #[.int .i64 x, .int .i64 y] 46 (0, 0)) :=
        block_set (block_set Hr.out _) _
      refine bodyPost_ret (results_cell_row rfl _ _ (w.heap.size + 1) 46 _ (0, 0) _ rfl hheap Tryd.underlying46 rfl (by kernel_rfl)) rfl ⟨by rw [Hx.out, Hy.out], ?_⟩
      refine Upd.mono (S := fun j => w.heap.size ≤ j) ((((HU.out.mono (T := fun j => w.heap.size ≤ j) (fun _ _ h => h.elim)).trans Hu.out (fun j _ h => by omega)).setCell _ (fun _ => Nat.le_succ _)).setCell _ (fun _ => Nat.le_succ _)) (fun j hj h => by omega)

theorem cosR_rnd (r : Nat) : rnd ((wst r 12).1 : Nat) 131072 = (cosR r : Nat) := by unfold rnd cosR; omega
theorem sinR_rnd (r : Nat) : rnd ((wst r 12).2 : Nat) 131072 = (sinR r : Nat) := by unfold rnd sinR; omega
def cir (S : Int) : Int × Int := rot ((cosR ((S % 16384).toNat % 4096) : Nat), (sinR ((S % 16384).toNat % 4096) : Nat)) ((S % 16384).toNat / 4096)
set_option maxRecDepth 100000 in
set_option maxHeartbeats 2000000 in
theorem circle_any (S : Int) (w : World) (hp : Parts w) :
    Calls Tryd.prog 36 #[.int .i64 S] w fun e w' => e = .returned (.agg #[.int .i64 (cir S).1, .int .i64 (cir S).2]) ∧ Upd NoB w w' := by
  have hand := i64_mask S
  obtain ⟨T, hT⟩ : ∃ T : Nat, S % 16384 = (T : Int) := ⟨(S % 16384).toNat, by omega⟩
  have hT2 : T ≤ 16383 := by omega
  have hc : cir S = rot ((cosR (T % 4096) : Nat), (sinR (T % 4096) : Nat)) (T / 4096) := by unfold cir; rw [hT, Int.toNat_natCast]
  rw [hT] at hand
  obtain ⟨Q, hQ⟩ : ∃ Q, T / 4096 = Q := ⟨_, rfl⟩
  obtain ⟨r, hr⟩ : ∃ r, T % 4096 = r := ⟨_, rfl⟩
  have q1 : (T : Int) / 4096 = (Q : Int) := by omega
  have r1 : (T : Int) % 4096 = (r : Int) := by omega
  have hQ2 : Q ≤ 3 := by omega
  have hr2 : r < 4096 := by omega
  rw [hQ, hr] at hc
  have wl := wst_le hr2 12 (by omega)
  have HC := Lib.hid hc; clear hc hQ hr hT
  have hc1 := cosR_rnd r
  have hs1 := sinR_rnd r
  have hsm : Small (((cosR r : Nat) : Int), ((sinR r : Nat) : Int)) := by unfold Small cosR sinR; simp only; omega
  obtain ⟨X, eX⟩ : ∃ X, (wst r 12).1 = X := ⟨_, rfl⟩
  obtain ⟨Y, eY⟩ : ∃ Y, (wst r 12).2 = Y := ⟨_, rfl⟩
  rw [eX] at hc1 wl
  rw [eY] at hs1 wl
  obtain ⟨c, ec⟩ : ∃ c, cosR r = c := ⟨_, rfl⟩
  obtain ⟨s, es⟩ : ∃ s, sinR r = s := ⟨_, rfl⟩
  rw [ec] at hc1 hsm HC
  rw [es] at hs1 hsm HC
  have Hc1 := Lib.hid hc1; have Hs1 := Lib.hid hs1; have Hsm := Lib.hid hsm; have EX := Lib.hid eX; have EY := Lib.hid eY; clear hc1 hs1 hsm eX eY ec es
  obtain ⟨W, hW⟩ : ∃ W, W = w.alloc (.cells #[.int .i64 0, .int .i64 0] 46) := ⟨_, rfl⟩
  have hu : Upd NoB w W := by rw [hW]; exact (Upd.refl _ _).alloc _
  have b0 : W.heap[w.heap.size]? = some (.cells #[.int .i64 0, .int .i64 0] 46 (0, 0)) := by rw [hW]; exact heap_alloc_new w _
  have hP := hp.upd hu (noB 0)
  have HW := Lib.hid hW; clear hW hp
  have HP := Lib.hid hP; have HU := Lib.hid hu; have B0 := Lib.hid b0; clear hP hu b0
  go_enter Tryd.func36, Tryd.ntmps36
  go_wp2_with fail
  rw [← HW.out]
  refine (within_any r W hr2 HP.out).mono ?_
  rintro e w1 ⟨rfl, u1⟩
  rw [EX.out, EY.out]
  have B1 := Lib.hid (u1.heap B0.out (noB _))
  have U1 := Lib.hid (HU.out.then u1); clear u1
  obtain ⟨W2, hW2⟩ : ∃ W2, W2 = w1.alloc (.cells #[.int .i64 X, .int .i64 Y] 46) := ⟨_, rfl⟩
  have p0 : W2.heap[w1.heap.size]? = some (.cells #[.int .i64 X, .int .i64 Y] 46 (0, 0)) := by rw [hW2]; exact heap_alloc_new w1 _
  have u2 : Upd NoB w1 W2 := by rw [hW2]; exact (Upd.refl _ _).alloc _
  have P0 := Lib.hid p0; have U2 := Lib.hid u2; have HW2 := Lib.hid hW2; clear p0 u2 hW2
  go_wp2_with fail
  rw [← HW2.out]
  refine (quarters_in (Q : Int) W2).mono ?_
  rintro e w2 ⟨rfl, rfl⟩
  obtain ⟨W3, hW3⟩ : ∃ W3, W3 = W2.alloc (.cells #[.int .i64 Q] 3) := ⟨_, rfl⟩
  have q0 : W3.heap[W2.heap.size]? = some (.cells #[.int .i64 Q] 3 (0, 0)) := by rw [hW3]; exact heap_alloc_new W2 _
  have u3 : Upd NoB W2 W3 := by rw [hW3]; exact (Upd.refl _ _).alloc _
  rw [← hW3]
  clear hW3
  have p3 := u3.heap P0.out (noB _)
  have d0 := cell_of_block0 p3
  have d1 := cell_of_block1 p3
  have f0 := free_of_block p3 0
  have f1 := free_of_block p3 1
  have Q0 := Lib.hid q0; have U3 := Lib.hid ((U1.out.then U2.out).then u3)
  have B3 := Lib.hid (u3.heap (U2.out.heap B1.out (noB _)) (noB _))
  clear q0 u3 p3
  go_wp2_with fail
  refine wp_region_still_tail 8 (by kernel_rfl) (by kernel_rfl) ?_
  simp only [List.take_succ_cons, List.take_zero, List.drop_succ_cons, List.drop_zero]
  iterate 3 still_step
  still_call (round_any _ _ _ (by omega) (by omega) (by omega) (by omega))
  iterate 2 still_step
  still_call (round_any _ _ _ (by omega) (by omega) (by omega) (by omega))
  still_step
  rw [Hc1.out, Hs1.out]
  refine wpStill_nil ?_
  change wpList _ _ _ _ _ (World.drew W3)
  go_wp2_with fail
  refine (quarters1_any Q c s W2.heap.size W3.drew hQ2 Hsm.out Q0.out).mono ?_
  rintro e w4 ⟨rfl, u4⟩
  have hr := (show Upd NoB W3 w4 from ((Upd.refl _ _).drew).trans u4 (fun _ _ h => h)).heap B3.out (noB _)
  have U4 := Lib.hid (U3.out.then (show Upd NoB W3 w4 from ((Upd.refl _ _).drew).trans u4 (fun _ _ h => h)))
  have e0 := cell_of_block0 hr
  have e1 := cell_of_block1 hr
  have g0 := free_of_block hr 0
  have g1 := free_of_block hr 1
  have Hr := Lib.hid hr; clear hr u4 d0 d1 f0 f1
  obtain ⟨x, hx⟩ : ∃ x, (rot ((c : Int), (s : Int)) Q).1 = x := ⟨_, rfl⟩
  obtain ⟨y, hy⟩ : ∃ y, (rot ((c : Int), (s : Int)) Q).2 = y := ⟨_, rfl⟩
  have Hx := Lib.hid hx; have Hy := Lib.hid hy
  rw [hx, hy]
  clear hx hy
  go_wp2
  have hheap : ((w4.setCell ⟨w.heap.size, 0, none⟩ (.int .i64 x)).setCell ⟨w.heap.size, 1, none⟩ (.int .i64 y)).heap[w.heap.size]? = some (.cells #[.int .i64 x, .int .i64 y] 46 (0, 0)) :=
    block_set (block_set Hr.out _) _
  refine bodyPost_ret (results_cell_row rfl _ _ w.heap.size 46 _ (0, 0) _ rfl hheap Tryd.underlying46 rfl (by kernel_rfl)) rfl ⟨by rw [HC.out, Hx.out, Hy.out], ?_⟩
  exact Upd.mono (S := fun j => w.heap.size ≤ j) (((U4.out.mono (T := fun j => w.heap.size ≤ j) (fun _ _ h => h.elim)).setCell _ (fun _ => Nat.le_refl _)).setCell _ (fun _ => Nat.le_refl _)) (fun j hj h => by omega)
theorem field_x (x y : Int) (w : World) : (Instr.field 46 (.agg #[.int .i64 x, .int .i64 y]) 0).run Tryd.prog w = .ok (.int .i64 x) w := by kernel_rfl
theorem field_y (x y : Int) (w : World) : (Instr.field 46 (.agg #[.int .i64 x, .int .i64 y]) 1).run Tryd.prog w = .ok (.int .i64 y) w := by kernel_rfl
theorem angE_ok {n d : Int} (h : angE n d = 0) : 1 ≤ d ∧ d ≤ 16384 ∧ -1099511627776 ≤ n ∧ n ≤ 1099511627776 := by
  rcases angE_cases n d with h' | h' | h' | ⟨hp, h2, h3, h4⟩
  · omega
  · omega
  · omega
  · have := pow2_in hp
    omega
theorem div_in {d : Int} (h1 : 1 ≤ d) (h2 : d ≤ 16384) : 0 ≤ 16384 / d ∧ 16384 / d ≤ 16384 :=
  ⟨Int.ediv_nonneg (by omega) (by omega), Int.ediv_le_self d (by omega)⟩
theorem mul_in {a b : Int} (h1 : -1099511627776 ≤ a) (h2 : a ≤ 1099511627776) (h3 : 0 ≤ b) (h4 : b ≤ 16384) : -18014398509481984 ≤ a * b ∧ a * b ≤ 18014398509481984 := by
  have x := Int.mul_le_mul_of_nonneg_right h2 h3
  have y := Int.mul_le_mul_of_nonneg_right h1 h3
  omega

set_option maxRecDepth 100000 in
theorem Sin_any (n d : Int) (w : World) (hp : Parts w) : Calls Tryd.prog 11 #[.int .i64 n, .int .i64 d] w fun e w' => e = .returned (.tuple #[.int .i64 (onOk (angE n d) (cir (n * (16384 / d))).2), .int .i64 (angE n d)]) ∧ Upd NoB w w' := by
  have HP := Lib.hid hp; clear hp
  by_cases h : angE n d = 0
  · have g := angE_ok h
    have V := Lib.hid (show onOk (angE n d) (cir (n * (16384 / d))).2 = (cir (n * (16384 / d))).2 by rw [h]; rfl)
    have H := Lib.hid h; clear h
    have nz : d ≠ 0 := by omega
    have dv := div_in g.1 g.2.1
    obtain ⟨q, hq⟩ : ∃ q, 16384 / d = q := ⟨_, rfl⟩
    rw [hq] at dv V ⊢
    have ml := mul_in (a := n) (b := q) g.2.2.1 g.2.2.2 dv.1 dv.2
    obtain ⟨S, hS⟩ : ∃ S, n * q = S := ⟨_, rfl⟩
    rw [hS] at ml V ⊢
    have w1 : IntKind.i64.wrap (n * q) = S := by rw [hS]; exact IntWalk.i64_in _ (by omega)
    have w2 : wrap64 S = S := IntWalk.wrap64_in _ (by omega)
    have w3 : wrap64 (n * q) = S := by rw [hS]; exact w2
    clear hS
    go_enter Tryd.func11, Tryd.ntmps11
    go_wp2_with fail
    refine (checkAngle_any n d _).mono ?_
    rintro e w' ⟨rfl, rfl⟩
    rw [H.out]
    go_wp2_with fail
    (with_reducible refine (circle_any S _ HP.out).mono ?_)
    rintro e w2 ⟨rfl, u⟩
    have U := Lib.hid u; clear u
    have fl := fun w => field_y (cir S).1 (cir S).2 w
    go_wp2
    go_ret2
    exact ⟨ret2_int V.out.symm H.out.symm, U.out⟩
  · have V := Lib.hid (show onOk (angE n d) (cir (n * (16384 / d))).2 = 0 from if_neg h)
    have t : (angE n d != 0) = true := by simpa using h
    have H := Lib.hid h; clear h
    go_enter Tryd.func11, Tryd.ntmps11
    go_wp2_with fail
    refine (checkAngle_any n d _).mono ?_
    rintro e w' ⟨rfl, rfl⟩
    go_wp2
    go_ret2
    exact ⟨ret2_int V.out.symm rfl, Upd.refl _ _⟩

set_option maxRecDepth 100000 in
theorem Cos_any (n d : Int) (w : World) (hp : Parts w) : Calls Tryd.prog 13 #[.int .i64 n, .int .i64 d] w fun e w' => e = .returned (.tuple #[.int .i64 (onOk (angE n d) (cir (n * (16384 / d))).1), .int .i64 (angE n d)]) ∧ Upd NoB w w' := by
  have HP := Lib.hid hp; clear hp
  by_cases h : angE n d = 0
  · have g := angE_ok h
    have V := Lib.hid (show onOk (angE n d) (cir (n * (16384 / d))).1 = (cir (n * (16384 / d))).1 by rw [h]; rfl)
    have H := Lib.hid h; clear h
    have nz : d ≠ 0 := by omega
    have dv := div_in g.1 g.2.1
    obtain ⟨q, hq⟩ : ∃ q, 16384 / d = q := ⟨_, rfl⟩
    rw [hq] at dv V ⊢
    have ml := mul_in (a := n) (b := q) g.2.2.1 g.2.2.2 dv.1 dv.2
    obtain ⟨S, hS⟩ : ∃ S, n * q = S := ⟨_, rfl⟩
    rw [hS] at ml V ⊢
    have w1 : IntKind.i64.wrap (n * q) = S := by rw [hS]; exact IntWalk.i64_in _ (by omega)
    have w2 : wrap64 S = S := IntWalk.wrap64_in _ (by omega)
    have w3 : wrap64 (n * q) = S := by rw [hS]; exact w2
    clear hS
    go_enter Tryd.func13, Tryd.ntmps13
    go_wp2_with fail
    refine (checkAngle_any n d _).mono ?_
    rintro e w' ⟨rfl, rfl⟩
    rw [H.out]
    go_wp2_with fail
    (with_reducible refine (circle_any S _ HP.out).mono ?_)
    rintro e w2 ⟨rfl, u⟩
    have U := Lib.hid u; clear u
    have fl := fun w => field_x (cir S).1 (cir S).2 w
    go_wp2
    go_ret2
    exact ⟨ret2_int V.out.symm H.out.symm, U.out⟩
  · have V := Lib.hid (show onOk (angE n d) (cir (n * (16384 / d))).1 = 0 from if_neg h)
    have t : (angE n d != 0) = true := by simpa using h
    have H := Lib.hid h; clear h
    go_enter Tryd.func13, Tryd.ntmps13
    go_wp2_with fail
    refine (checkAngle_any n d _).mono ?_
    rintro e w' ⟨rfl, rfl⟩
    go_wp2
    go_ret2
    exact ⟨ret2_int V.out.symm rfl, Upd.refl _ _⟩
end Go.Proofs.YtpmhioaoniijbaaDoor
