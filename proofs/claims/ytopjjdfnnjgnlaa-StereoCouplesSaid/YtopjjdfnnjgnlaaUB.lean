/- stereo: lift's Mid and Sides, the methods of a pair, logOf -/
import Derived.Test.YtopjjdfnnjgnlaaUA
import Derived.Test.YtopjjdfnnjgnlaaFM
import Derived.Laws.MakeOwn
import Derived.Lib.MinMax
namespace Go.Proofs.Ytopjjdfnnjgnlaa
open Go.RowKit Go.Shelf

theorem Ints.cellAt {w : World} {a : Option Addr} {n cap : Nat} {xs : List Int} (h : Ints w (.slice a n cap) xs) {k : Nat} {x : Int} (hx : xs[k]? = some x) : ∃ b off, a = some ⟨b, off, none⟩ ∧ w.cell? ⟨b, off + k, none⟩ = some (.int .i64 x) := by
  obtain ⟨_, a', cap', e, _, h3⟩ := h
  injection e with e1 e2 e3
  subst e1
  rcases h3 with h3 | ⟨b, off, rfl, h3⟩
  · subst h3; simp at hx
  · exact ⟨b, off, rfl, h3 k x hx⟩
theorem inM_get {m : Int} {xs : List Int} (h : ∀ (j : Nat) (y : Int), xs[j]? = some y → -m ≤ y ∧ y ≤ m) : inM m xs = true := inM_all fun x hx => by
  obtain ⟨j, hj⟩ := List.getElem?_of_mem hx
  exact h j x hj
theorem cell_of_block0 {w : World} {b : Nat} {u v : Value} {t : TypeId} (h : w.heap[b]? = some (.cells #[u, v] t (0, 0))) : w.cell? ⟨b, 0, none⟩ = some u := by simp [World.cell?, h]
theorem cell_of_block1 {w : World} {b : Nat} {u v : Value} {t : TypeId} (h : w.heap[b]? = some (.cells #[u, v] t (0, 0))) : w.cell? ⟨b, 1, none⟩ = some v := by simp [World.cell?, h]
theorem free_of_block {w : World} {b : Nat} {c : Array Value} {t : TypeId} (h : w.heap[b]? = some (.cells c t (0, 0))) (i : Nat) : w.frozen? ⟨b, i, none⟩ = false := by
  unfold World.frozen?
  rw [h]
  simp
theorem boxes2 (W : World) (o0 o1 : Obj) : ((W.alloc o0).alloc o1).heap[W.heap.size]? = some o0 ∧ ((W.alloc o0).alloc o1).heap[W.heap.size + 1]? = some o1 ∧ Upd NoB W ((W.alloc o0).alloc o1) := by
  have s1 : (W.alloc o0).heap.size = W.heap.size + 1 := by simp
  have h1 := heap_alloc_new (W.alloc o0) o1
  rw [s1] at h1
  exact ⟨(Below.heap_alloc _ _ _ (by omega)).trans (heap_alloc_new W _), h1, ((Upd.refl _ _).alloc _).alloc _⟩
set_option maxRecDepth 100000 in
set_option maxHeartbeats 1000000 in
theorem lfWithin_any (M : Int) (v : Value) (xs : List Int) (w : World) (hM : 0 ≤ M) (hM2 : M ≤ 4611686018427387904) (h : Ints w v xs) : Calls Try.prog 112 #[.int .i64 M, v] w fun e w' => e = .returned (.bool (inM M xs)) ∧ w' = w := by
  obtain ⟨hb, a, cap, rfl, hc, h3⟩ := h
  have H3 := Lib.hid h3; clear h3
  obtain ⟨L, hL⟩ : ∃ L, L = xs.length := ⟨_, rfl⟩
  have HL := Lib.hid hL
  rw [← hL] at hb ⊢
  clear hL hc
  have wn : IntKind.i64.wrap (-M) = -M := IntWalk.i64_in _ (by omega)
  go_enter Try.func112, Try.ntmps112
  go_wp2
  go_loop [9] (fun i => ∃ k : Nat, k ≤ L ∧ i = .int .i64 k ∧ ∀ j x, j < k → xs[j]? = some x → (-M ≤ x ∧ x ≤ M)) (fun i => L - (intOf i).toNat)
  case atStart => exact ⟨0, Nat.zero_le _, rfl, fun j x hj => absurd hj (Nat.not_lt_zero _)⟩
  case round =>
    obtain ⟨k, hk, rfl, hj⟩ := hrel
    have Hj := Lib.hid hj; clear hj
    by_cases hlt : k < L
    · obtain ⟨x, hx⟩ : ∃ x, xs[k]? = some x := ⟨_, List.getElem?_eq_getElem (by rw [← HL.out]; exact hlt)⟩
      rcases H3.out with h3 | ⟨b, off, rfl, h3⟩
      · rw [h3] at hx; simp at hx
      have hcell := h3 k x hx
      have Hx := Lib.hid hx
      clear h3 hx
      by_cases h1 : x < -M
      · have t1 : decide (x < -M) = true := decide_eq_true h1
        have Hr := Lib.hid (inM_no (m := M) Hx.out (by omega))
        clear h1
        go_wp2
        go_ret
        rw [Hr.out]
        exact ⟨rfl, rfl⟩
      · have t1 : decide (x < -M) = false := decide_eq_false h1
        by_cases h2 : M < x
        · have t2 : decide (M < x) = true := decide_eq_true h2
          have Hr := Lib.hid (inM_no (m := M) Hx.out (by omega))
          clear h1 h2
          go_wp2
          go_ret
          rw [Hr.out]
          exact ⟨rfl, rfl⟩
        · have t2 : decide (M < x) = false := decide_eq_false h2
          have Hs := Lib.hid (show (-M ≤ x ∧ x ≤ M) from ⟨by omega, by omega⟩)
          clear h1 h2
          go_wp2
          go_round
          case rel => exact ⟨k + 1, by omega, by go_num, fun j y hj hy => by
            by_cases hjk : j < k
            · exact Hj.out j y hjk hy
            · obtain rfl : j = k := by omega
              rw [Hx.out] at hy
              injection hy with hy
              rw [← hy]; exact Hs.out⟩
          case measure => simp [intOf]; omega
    · obtain rfl : k = L := by omega
      have Hr := Lib.hid (inM_get (m := M) (xs := xs) (fun j x hx => Hj.out j x (by rw [HL.out]; exact (List.getElem?_eq_some_iff.1 hx).1) hx))
      go_wp2
      go_ret
      rw [Hr.out]
      exact ⟨rfl, rfl⟩
theorem Ints.of2 {w : World} {b : Nat} {x y : Int} {t : TypeId} (h : w.heap[b]? = some (.cells #[.int .i64 x, .int .i64 y] t (0, 0))) : Ints w (.slice (some ⟨b, 0, none⟩) 2 2) [x, y] := by
  refine ⟨by simp, some ⟨b, 0, none⟩, 2, rfl, ⟨by simp, fun e => by cases e⟩, .inr ⟨b, 0, rfl, fun j z hj => ?_⟩⟩
  rcases j with _ | _ | j
  · simp at hj; subst hj; simp [World.cell?, h]
  · simp at hj; subst hj; simp [World.cell?, h]
  · simp at hj
theorem lfWithin2 (M x y : Int) (w : World) (hM : 0 ≤ M) (hM2 : M ≤ 4611686018427387904) (hx : -M ≤ x ∧ x ≤ M) (hy : -M ≤ y ∧ y ≤ M) : Calls Try.prog 112 #[.int .i64 M, .slice (some ⟨w.heap.size, 0, none⟩) 2 2] (w.alloc (.cells #[.int .i64 x, .int .i64 y] 3)) fun e w' => e = .returned (.bool true) ∧ w' = w.alloc (.cells #[.int .i64 x, .int .i64 y] 3) := by
  have := lfWithin_any M _ [x, y] (w.alloc (.cells #[.int .i64 x, .int .i64 y] 3)) hM hM2 (Ints.of2 (heap_alloc_new w _))
  rw [show inM M [x, y] = true from inM_all fun z hz => by
    simp only [List.mem_cons, List.not_mem_nil, or_false] at hz
    rcases hz with rfl | rfl
    · exact hx
    · exact hy] at this
  exact this
theorem lfHalf_any (v : Int) (w : World) : Calls Try.prog 113 #[.int .i64 v] w fun e w' => e = .returned (.int .i64 (v / 2)) ∧ w' = w := by
  go_enter Try.func113, Try.ntmps113
  go_wp2
  go_ret
  exact ⟨rfl, rfl⟩
set_option maxRecDepth 100000 in
theorem lfMid_any (p : Int × Int) (w : World) (h : InP 1073741824 p) : Calls Try.prog 95 #[.int .i64 p.1, .int .i64 p.2] w fun e w' => e = .returned (.tuple #[.int .i64 (midP p).1, .int .i64 (midP p).2, .int .i64 0]) ∧ Upd NoB w w' := by
  obtain ⟨l, r⟩ := p
  obtain ⟨⟨h1, h2⟩, h3, h4⟩ := h
  simp only at h1 h2 h3 h4 ⊢
  have U := Lib.hid ((Upd.refl NoB w).alloc (.cells #[.int .i64 l, .int .i64 r] 3))
  have HA := Lib.hid (lfWithin2 1073741824 l r w (by omega) (by omega) ⟨h1, h2⟩ ⟨h3, h4⟩)
  have V := Lib.hid (show midP (l, r) = (r + (l - r) / 2, l - r) from rfl)
  rw [V.out]
  go_enter Try.func95, Try.ntmps95
  go_wp2_with fail
  refine HA.out.mono ?_
  rintro e w' ⟨rfl, rfl⟩
  go_wp2_with fail
  refine (lfHalf_any (l - r) _).mono ?_
  rintro e w' ⟨rfl, rfl⟩
  go_wp2
  go_ret3
  exact ⟨rfl, U.out⟩
set_option maxRecDepth 100000 in
theorem lfSides_any (p : Int × Int) (w : World) (h : InP 4294967296 p) : Calls Try.prog 97 #[.int .i64 p.1, .int .i64 p.2] w fun e w' => e = .returned (.tuple #[.int .i64 (sidP p).1, .int .i64 (sidP p).2, .int .i64 0]) ∧ Upd NoB w w' := by
  obtain ⟨m, s⟩ := p
  obtain ⟨⟨h1, h2⟩, h3, h4⟩ := h
  simp only at h1 h2 h3 h4 ⊢
  have U := Lib.hid ((Upd.refl NoB w).alloc (.cells #[.int .i64 m, .int .i64 s] 3))
  have HA := Lib.hid (lfWithin2 4294967296 m s w (by omega) (by omega) ⟨h1, h2⟩ ⟨h3, h4⟩)
  have V := Lib.hid (show sidP (m, s) = (m - s / 2 + s, m - s / 2) from rfl)
  rw [V.out]
  go_enter Try.func97, Try.ntmps97
  go_wp2_with fail
  refine HA.out.mono ?_
  rintro e w' ⟨rfl, rfl⟩
  go_wp2_with fail
  refine (lfHalf_any s _).mono ?_
  rintro e w' ⟨rfl, rfl⟩
  go_wp2
  go_ret3
  exact ⟨rfl, U.out⟩
set_option maxRecDepth 100000 in
set_option maxHeartbeats 1000000 in
theorem pMid_any (p : Int × Int) (w : World) (h : InP 1073741824 p) : Calls Try.prog 59 #[.agg #[.int .i64 p.1, .int .i64 p.2]] w fun e w' => e = .returned (.agg #[.int .i64 (midP p).1, .int .i64 (midP p).2]) ∧ Upd NoB w w' := by
  obtain ⟨W, hW⟩ : ∃ W, W = (w.alloc (.cells #[.int .i64 p.1, .int .i64 p.2] 66)).alloc (.cells #[.int .i64 0, .int .i64 0] 66) := ⟨_, rfl⟩
  obtain ⟨c0, c1, hu⟩ := boxes2 w (.cells #[.int .i64 p.1, .int .i64 p.2] 66) (.cells #[.int .i64 0, .int .i64 0] 66)
  rw [← hW] at c0 c1 hu
  have d0 := cell_of_block0 c0
  have d1 := cell_of_block1 c0
  have HW := Lib.hid hW; have C1 := Lib.hid c1; have HU := Lib.hid hu
  have HM := Lib.hid (fun w => lfMid_any p w h)
  generalize p.1 = x at *
  generalize p.2 = y at *
  generalize (midP p).1 = a at *
  generalize (midP p).2 = b at *
  clear hW c0 c1 hu h
  go_enter Try.func59, Try.ntmps59
  go_wp2_with fail
  rw [← HW.out]
  refine (HM.out W).mono ?_
  rintro e w2 ⟨rfl, u2⟩
  have U2 := Lib.hid (HU.out.then u2)
  have e1 := u2.heap C1.out (noB _)
  have E1 := Lib.hid e1
  have g0 := cell_of_block0 e1
  have g1 := cell_of_block1 e1
  have f0 := free_of_block e1 0
  have f1 := free_of_block e1 1
  clear u2 e1 d0 d1
  go_wp2_with fail
  have hheap : ((w2.setCell ⟨w.heap.size + 1, 0, none⟩ (.int .i64 a)).setCell ⟨w.heap.size + 1, 1, none⟩ (.int .i64 b)).heap[w.heap.size + 1]? = some (.cells #[.int .i64 a, .int .i64 b] 66 (0, 0)) := block_set (block_set E1.out _) _
  refine bodyPost_ret (results_cell_row rfl _ _ (w.heap.size + 1) 66 _ (0, 0) _ rfl hheap Try.underlying66 rfl (by kernel_rfl)) rfl ⟨rfl, ?_⟩
  exact Upd.mono (S := fun j => w.heap.size ≤ j) (((U2.out.mono (T := fun j => w.heap.size ≤ j) (fun _ _ h => h.elim)).setCell _ (fun _ => Nat.le_succ _)).setCell _ (fun _ => Nat.le_succ _)) (fun j hj h => by omega)
set_option maxRecDepth 100000 in
set_option maxHeartbeats 1000000 in
theorem pSides_any (p : Int × Int) (w : World) (h : InP 4294967296 p) : Calls Try.prog 62 #[.agg #[.int .i64 p.1, .int .i64 p.2]] w fun e w' => e = .returned (.agg #[.int .i64 (sidP p).1, .int .i64 (sidP p).2]) ∧ Upd NoB w w' := by
  obtain ⟨W, hW⟩ : ∃ W, W = (w.alloc (.cells #[.int .i64 p.1, .int .i64 p.2] 66)).alloc (.cells #[.int .i64 0, .int .i64 0] 66) := ⟨_, rfl⟩
  obtain ⟨c0, c1, hu⟩ := boxes2 w (.cells #[.int .i64 p.1, .int .i64 p.2] 66) (.cells #[.int .i64 0, .int .i64 0] 66)
  rw [← hW] at c0 c1 hu
  have d0 := cell_of_block0 c0
  have d1 := cell_of_block1 c0
  have HW := Lib.hid hW; have C1 := Lib.hid c1; have HU := Lib.hid hu
  have HM := Lib.hid (fun w => lfSides_any p w h)
  generalize p.1 = x at *
  generalize p.2 = y at *
  generalize (sidP p).1 = a at *
  generalize (sidP p).2 = b at *
  clear hW c0 c1 hu h
  go_enter Try.func62, Try.ntmps62
  go_wp2_with fail
  rw [← HW.out]
  refine (HM.out W).mono ?_
  rintro e w2 ⟨rfl, u2⟩
  have U2 := Lib.hid (HU.out.then u2)
  have e1 := u2.heap C1.out (noB _)
  have E1 := Lib.hid e1
  have g0 := cell_of_block0 e1
  have g1 := cell_of_block1 e1
  have f0 := free_of_block e1 0
  have f1 := free_of_block e1 1
  clear u2 e1 d0 d1
  go_wp2_with fail
  have hheap : ((w2.setCell ⟨w.heap.size + 1, 0, none⟩ (.int .i64 a)).setCell ⟨w.heap.size + 1, 1, none⟩ (.int .i64 b)).heap[w.heap.size + 1]? = some (.cells #[.int .i64 a, .int .i64 b] 66 (0, 0)) := block_set (block_set E1.out _) _
  refine bodyPost_ret (results_cell_row rfl _ _ (w.heap.size + 1) 66 _ (0, 0) _ rfl hheap Try.underlying66 rfl (by kernel_rfl)) rfl ⟨rfl, ?_⟩
  exact Upd.mono (S := fun j => w.heap.size ≤ j) (((U2.out.mono (T := fun j => w.heap.size ≤ j) (fun _ _ h => h.elim)).setCell _ (fun _ => Nat.le_succ _)).setCell _ (fun _ => Nat.le_succ _)) (fun j hj h => by omega)
set_option maxRecDepth 100000 in
set_option maxHeartbeats 1000000 in
theorem pItself_any (x y : Int) (w : World) : Calls Try.prog 89 #[.agg #[.int .i64 x, .int .i64 y]] w fun e w' => e = .returned (.agg #[.int .i64 x, .int .i64 y]) ∧ Upd NoB w w' := by
  obtain ⟨W, hW⟩ : ∃ W, W = (w.alloc (.cells #[.int .i64 x, .int .i64 y] 66)).alloc (.cells #[.int .i64 0, .int .i64 0] 66) := ⟨_, rfl⟩
  obtain ⟨c0, c1, hu⟩ := boxes2 w (.cells #[.int .i64 x, .int .i64 y] 66) (.cells #[.int .i64 0, .int .i64 0] 66)
  rw [← hW] at c0 c1 hu
  have d0 := cell_of_block0 c0
  have d1 := cell_of_block1 c0
  have g0 := cell_of_block0 c1
  have g1 := cell_of_block1 c1
  have f0 := free_of_block c1 0
  have f1 := free_of_block c1 1
  clear hW c0 c1 hu
  go_enter Try.func89, Try.ntmps89
  go_wp2_with fail
  have c1 := (boxes2 w (.cells #[.int .i64 x, .int .i64 y] 66) (.cells #[.int .i64 x, .int .i64 y] 66)).2
  exact bodyPost_ret (results_cell_row rfl _ _ (w.heap.size + 1) 66 _ (0, 0) _ rfl c1.1 Try.underlying66 rfl (by kernel_rfl)) rfl ⟨rfl, c1.2⟩
set_option maxRecDepth 100000 in
theorem logOf_any (c : Int) (w : World) (h : -1073741824 ≤ c ∧ c ≤ 1073741824) : Calls Try.prog 111 #[.int .i64 c] w fun r w' => r = .returned (.int .i64 (lgA c)) ∧ Upd NoB w w' := by
  have HL := Lib.hid (Log_any (max c (-c) + 1) w)
  have hE : lgE (max c (-c) + 1) = 0 := by
    rcases lgE_cases (max c (-c) + 1) with h | h | h
    · omega
    · omega
    · exact h.2.2
  rw [hE] at HL
  have HR := Lib.hid (show onOk 0 ((logN (max c (-c) + 1).toNat : Nat) : Int) = lgA c by unfold onOk lgA; rw [if_pos rfl])
  rw [HR.out] at HL
  generalize lgA c = V at *
  have y1 : IntKind.i64.wrap (-c) = -c := IntWalk.i64_in _ (by omega)
  have y2 : wrap64 (-c) = -c := IntWalk.wrap64_in _ (by omega)
  have y3 : IntKind.i64.wrap (max c (-c) + 1) = max c (-c) + 1 := IntWalk.i64_in _ (by omega)
  have y4 : wrap64 (max c (-c) + 1) = max c (-c) + 1 := IntWalk.wrap64_in _ (by omega)
  clear hE h
  go_enter Try.func111, Try.ntmps111
  go_wp2_with fail
  refine HL.out.mono ?_
  rintro r w' ⟨rfl, u1⟩
  have U1 := Lib.hid u1
  clear u1
  go_wp2_with fail
  go_ret
  exact ⟨rfl, U1.out⟩
end Go.Proofs.Ytopjjdfnnjgnlaa
