/- stereo: crossOf -/
import Derived.Test.YtopjjdfnnjgnlaaUE
namespace Go.Proofs.Ytopjjdfnnjgnlaa
open Go.RowKit Go.Shelf

theorem sMul_in {a b : Int} (ha : -2097152 ≤ a ∧ a ≤ 2097152) (hb : -2097152 ≤ b ∧ b ≤ 2097152) : -4398046511104 ≤ a * b ∧ a * b ≤ 4398046511104 := by
  have key : ∀ {x y : Int}, 0 ≤ x → x ≤ 2097152 → -2097152 ≤ y → y ≤ 2097152 → -4398046511104 ≤ x * y ∧ x * y ≤ 4398046511104 := by
    intro x y h0 h1 h2 h3
    have p1 := Int.mul_le_mul_of_nonneg_left h3 h0
    have p2 := Int.mul_le_mul_of_nonneg_left h2 h0
    omega
  rcases Int.le_total 0 a with h | h
  · exact key h ha.2 hb.1 hb.2
  · have := key (x := -a) (y := b) (by omega) (by omega) hb.1 hb.2
    rw [Int.neg_mul] at this
    omega
theorem sSq_in {a : Int} (ha : -2097152 ≤ a ∧ a ≤ 2097152) : 0 ≤ a * a ∧ a * a ≤ 4398046511104 := by
  refine ⟨?_, (sMul_in ha ha).2⟩
  rcases Int.le_total 0 a with h | h
  · exact Int.mul_nonneg h h
  · have := Int.mul_nonneg (show 0 ≤ -a by omega) (show 0 ≤ -a by omega)
    rw [Int.neg_mul_neg] at this
    exact this
theorem boxes3 (W : World) (o0 o1 o2 : Obj) : (((W.alloc o0).alloc o1).alloc o2).heap[W.heap.size]? = some o0 ∧ (((W.alloc o0).alloc o1).alloc o2).heap[W.heap.size + 1]? = some o1 ∧ (((W.alloc o0).alloc o1).alloc o2).heap[W.heap.size + 1 + 1]? = some o2 ∧ Upd NoB W (((W.alloc o0).alloc o1).alloc o2) := by
  obtain ⟨h0, h1, u⟩ := boxes2 W o0 o1
  have s2 : ((W.alloc o0).alloc o1).heap.size = W.heap.size + 1 + 1 := by simp
  have h2 := heap_alloc_new ((W.alloc o0).alloc o1) o2
  rw [s2] at h2
  exact ⟨(Below.heap_alloc _ _ _ (lt_of_block h0)).trans h0, (Below.heap_alloc _ _ _ (lt_of_block h1)).trans h1, h2, u.alloc _⟩
set_option maxRecDepth 100000 in
set_option maxHeartbeats 2000000 in
theorem plus_any (A B X x y : Int) (w : World) (hx : -2097152 ≤ x ∧ x ≤ 2097152) (hy : -2097152 ≤ y ∧ y ≤ 2097152) (hA : 0 ≤ A ∧ A ≤ 562949953421312) (hB : 0 ≤ B ∧ B ≤ 562949953421312) (hX : -562949953421312 ≤ X ∧ X ≤ 562949953421312) :
    Calls Try.prog 91 #[.agg #[.int .i64 A, .int .i64 B, .int .i64 X], .agg #[.int .i64 x, .int .i64 y]] w fun e w' => e = .returned (.agg #[.int .i64 (A + x * x), .int .i64 (B + y * y), .int .i64 (X + x * y)]) ∧ Upd NoB w w' := by
  obtain ⟨W, hW⟩ : ∃ W, W = ((w.alloc (.cells #[.int .i64 A, .int .i64 B, .int .i64 X] 93)).alloc (.cells #[.int .i64 x, .int .i64 y] 66)).alloc (.cells #[.int .i64 0, .int .i64 0, .int .i64 0] 93) := ⟨_, rfl⟩
  obtain ⟨b0, b1, b2, hu⟩ := boxes3 w (.cells #[.int .i64 A, .int .i64 B, .int .i64 X] 93) (.cells #[.int .i64 x, .int .i64 y] 66) (.cells #[.int .i64 0, .int .i64 0, .int .i64 0] 93)
  rw [← hW] at b0 b1 b2 hu
  have q1 := sSq_in hx
  have q2 := sSq_in hy
  have q3 := sMul_in hx hy
  obtain ⟨p1, e1⟩ : ∃ p, x * x = p := ⟨_, rfl⟩
  obtain ⟨p2, e2⟩ : ∃ p, y * y = p := ⟨_, rfl⟩
  obtain ⟨p3, e3⟩ : ∃ p, x * y = p := ⟨_, rfl⟩
  rw [e1] at q1 ⊢
  rw [e2] at q2 ⊢
  rw [e3] at q3 ⊢
  have z1 : wrap64 (A + p1) = A + p1 := IntWalk.wrap64_in _ (by omega)
  have z2 : wrap64 (B + p2) = B + p2 := IntWalk.wrap64_in _ (by omega)
  have z3 : wrap64 (X + p3) = X + p3 := IntWalk.wrap64_in _ (by omega)
  have y1 : wrap64 (x * x) = p1 := by rw [e1]; exact IntWalk.wrap64_in _ (by clear z1 z2 z3; omega)
  have y2 : wrap64 (y * y) = p2 := by rw [e2]; exact IntWalk.wrap64_in _ (by clear z1 z2 z3 y1; omega)
  have y3 : wrap64 (x * y) = p3 := by rw [e3]; exact IntWalk.wrap64_in _ (by clear z1 z2 z3 y1 y2; omega)
  have c0 := blk_cell b0 0
  have c1 := blk_cell b0 1
  have c2 := blk_cell b0 2
  have d0 := blk_cell b1 0
  have d1 := blk_cell b1 1
  have HW := Lib.hid hW; have HB2 := Lib.hid b2; have HU := Lib.hid hu
  have g0 := blk_cell b2 0
  have g1 := blk_cell b2 1
  have g2 := blk_cell b2 2
  have f0 := blk_free b2 0
  have f1 := blk_free b2 1
  have f2 := blk_free b2 2
  simp only [List.getElem?_toArray, List.getElem?_cons_zero, List.getElem?_cons_succ] at c0 c1 c2 d0 d1 g0 g1 g2
  clear hW b0 b1 b2 hu q1 q2 q3 e1 e2 e3 hx hy hA hB hX
  go_enter Try.func91, Try.ntmps91
  go_wp2_with fail
  obtain ⟨_, _, n2, nu⟩ := boxes3 w (.cells #[.int .i64 A, .int .i64 B, .int .i64 X] 93) (.cells #[.int .i64 x, .int .i64 y] 66) (.cells #[.int .i64 (A + p1), .int .i64 (B + p2), .int .i64 (X + p3)] 93)
  exact bodyPost_ret (results_cell_row rfl _ _ (w.heap.size + 1 + 1) 93 _ (0, 0) _ rfl n2 Try.underlying93 rfl (by kernel_rfl)) rfl ⟨rfl, nu⟩
theorem heap_cell3 {w : World} {g : Nat} {p q r x y z : Value} {t : TypeId} (h : w.heap[g]? = some (.cells #[p, q, r] t (0, 0))) : (((w.setCell ⟨g, 0, none⟩ x).setCell ⟨g, 1, none⟩ y).setCell ⟨g, 2, none⟩ z).heap[g]? = some (.cells #[x, y, z] t (0, 0)) :=
  block_set (block_set (block_set h x) y) z
theorem upd_cell3 {w w' : World} (h : Upd NoB w w') {g : Nat} (hg : w.heap.size ≤ g) (x y z : Value) : Upd NoB w (((w'.setCell ⟨g, 0, none⟩ x).setCell ⟨g, 1, none⟩ y).setCell ⟨g, 2, none⟩ z) :=
  upd_setc (upd_cell2 h hg x y) hg 2 z
theorem cells3 {w : World} {b : Nat} {x y z : Value} {t : TypeId} (h : w.heap[b]? = some (.cells #[x, y, z] t (0, 0))) : (w.cell? ⟨b, 0, none⟩ = some x ∧ w.cell? ⟨b, 1, none⟩ = some y ∧ w.cell? ⟨b, 2, none⟩ = some z) ∧ w.frozen? ⟨b, 0, none⟩ = false ∧ w.frozen? ⟨b, 1, none⟩ = false ∧ w.frozen? ⟨b, 2, none⟩ = false :=
  ⟨⟨blk_cell h 0, blk_cell h 1, blk_cell h 2⟩, blk_free h 0, blk_free h 1, blk_free h 2⟩
set_option maxRecDepth 100000 in
set_option maxHeartbeats 4000000 in
theorem added_any (b off n cap : Nat) (p : Nat → Int × Int) (w : World) (h : PrsA w b off p n) (hn : n ≤ 128) (hp : ∀ i, InP 2097152 (p i)) :
    Calls Try.prog 90 #[.slice (some ⟨b, off, none⟩) n cap, .agg #[.int .i64 0, .int .i64 0, .int .i64 0], .func (.func 91) #[] #[]] w fun r w' => r = .returned (.agg #[.int .i64 (sqA p n), .int .i64 (sqB p n), .int .i64 (prX p n)]) ∧ Upd NoB w w' := by
  have H := Lib.hid h
  have HA := Lib.hid (fun k => sm_bd (A := 0) (B := 4398046511104) (g := fun t => (p t).1 * (p t).1) (n := k) (fun i _ => sSq_in (hp i).1))
  have HB := Lib.hid (fun k => sm_bd (A := 0) (B := 4398046511104) (g := fun t => (p t).2 * (p t).2) (n := k) (fun i _ => sSq_in (hp i).2))
  have HX := Lib.hid (fun k => sm_bd (A := -4398046511104) (B := 4398046511104) (g := fun t => (p t).1 * (p t).2) (n := k) (fun i _ => sMul_in (hp i).1 (hp i).2))
  have HSA := Lib.hid (fun k => sm_succ (fun t => (p t).1 * (p t).1) k)
  have HSB := Lib.hid (fun k => sm_succ (fun t => (p t).2 * (p t).2) k)
  have HSX := Lib.hid (fun k => sm_succ (fun t => (p t).1 * (p t).2) k)
  have HP := Lib.hid hp
  obtain ⟨W, hW⟩ : ∃ W, W = (w.alloc (.cells #[.int .i64 0, .int .i64 0, .int .i64 0] 93)).alloc (.cells #[.int .i64 0, .int .i64 0, .int .i64 0] 93) := ⟨_, rfl⟩
  obtain ⟨b0, b1, hu0⟩ := boxes2 w (.cells #[.int .i64 0, .int .i64 0, .int .i64 0] 93) (.cells #[.int .i64 0, .int .i64 0, .int .i64 0] 93)
  rw [← hW] at b0 b1 hu0
  have HW := Lib.hid hW; have B0 := Lib.hid b0; have B1 := Lib.hid b1; have U0 := Lib.hid hu0
  unfold sqA sqB prX
  clear h hp hW b0 b1 hu0
  go_enter Try.func90, Try.ntmps90
  go_wp2_with fail
  rw [← HW.out]
  obtain ⟨g0, hg0⟩ : ∃ g, w.heap.size = g := ⟨_, rfl⟩
  have HG0 := Lib.hid hg0
  rw [hg0] at B0 B1 ⊢
  obtain ⟨g1, hg1⟩ : ∃ g, g0 + 1 = g := ⟨_, rfl⟩
  have HG1 := Lib.hid hg1
  rw [hg1] at B1 ⊢
  clear hg0 hg1
  go_loopw [11] (fun i wr => ∃ k : Nat, k ≤ n ∧ i = .int .i64 k ∧ wr.heap[g0]? = some (.cells #[.int .i64 (sm (fun t => (p t).1 * (p t).1) k), .int .i64 (sm (fun t => (p t).2 * (p t).2) k), .int .i64 (sm (fun t => (p t).1 * (p t).2) k)] 93 (0, 0)) ∧ wr.heap[g1]? = some (.cells #[.int .i64 0, .int .i64 0, .int .i64 0] 93 (0, 0)) ∧ Upd NoB w wr) (fun i _ => n - (intOf i).toNat)
  case atStart => exact ⟨0, Nat.zero_le _, rfl, B0.out, B1.out, U0.out⟩
  case round =>
    obtain ⟨k, hk, rfl, hb0, hb1, hu⟩ := hrel
    have HU := Lib.hid hu; have HB0 := Lib.hid hb0; have HB1 := Lib.hid hb1
    by_cases hlt : k < n
    · obtain ⟨c0, c1⟩ := (H.out.later hu) k hlt
      have hIn := HP.out k
      have ba := HA.out k
      have bb := HB.out k
      have bx := HX.out k
      have sa := HSA.out k
      have sb := HSB.out k
      have sx := HSX.out k
      generalize sm (fun t => (p t).1 * (p t).1) k = A at *
      generalize sm (fun t => (p t).2 * (p t).2) k = B at *
      generalize sm (fun t => (p t).1 * (p t).2) k = X at *
      have hPl := fun w => plus_any A B X (p k).1 (p k).2 w hIn.1 hIn.2 (by omega) (by omega) (by omega)
      have HPl := Lib.hid hPl; have SA := Lib.hid sa; have SB := Lib.hid sb; have SX := Lib.hid sx
      clear hPl sa sb sx hIn ba bb bx
      rw [← SA.out, ← SB.out, ← SX.out] at HPl
      obtain ⟨A1, hA1⟩ : ∃ A1, sm (fun t => (p t).1 * (p t).1) (k + 1) = A1 := ⟨_, rfl⟩
      obtain ⟨B1', hB1⟩ : ∃ B1, sm (fun t => (p t).2 * (p t).2) (k + 1) = B1 := ⟨_, rfl⟩
      obtain ⟨X1, hX1⟩ : ∃ X1, sm (fun t => (p t).1 * (p t).2) (k + 1) = X1 := ⟨_, rfl⟩
      rw [hA1, hB1, hX1] at HPl
      have EA := Lib.hid hA1; have EB := Lib.hid hB1; have EX := Lib.hid hX1
      clear hA1 hB1 hX1
      generalize (p k).1 = x at *
      generalize (p k).2 = y at *
      obtain ⟨⟨d0, d1, d2⟩, _, _, _⟩ := cells3 hb0
      have u2 : Upd NoB wr (wr.alloc (.cells #[.int .i64 x, .int .i64 y] 66)) := (Upd.refl _ _).alloc _
      obtain ⟨⟨e0, e1, e2⟩, _, _, _⟩ := cells3 (u2.heap hb0 (noB _))
      clear hb0 hb1 hu u2
      go_wp2_with fail
      refine (HPl.out _).mono ?_
      rintro e w2 ⟨rfl, u2⟩
      have u3 := ((Upd.refl NoB wr).alloc (.cells #[.int .i64 x, .int .i64 y] 66)).then u2
      have U2 := Lib.hid (HU.out.then u3)
      have hc0 := u3.heap HB0.out (noB _)
      have C0 := Lib.hid hc0; have C1 := Lib.hid (u3.heap HB1.out (noB _))
      obtain ⟨⟨j0, j1, j2⟩, f0, f1, f2⟩ := cells3 hc0
      clear hc0 u2 u3 c0 c1 d0 d1 d2 e0 e1 e2
      go_wp2_with fail
      go_roundw
      case rel =>
        have us : Upd (fun j => j = g0) w2 (((w2.setCell ⟨g0, 0, none⟩ (.int .i64 A1)).setCell ⟨g0, 1, none⟩ (.int .i64 B1')).setCell ⟨g0, 2, none⟩ (.int .i64 X1)) := (((Upd.refl (fun j => j = g0) w2).setCell (p := ⟨g0, 0, none⟩) _ (fun _ => rfl)).setCell (p := ⟨g0, 1, none⟩) _ (fun _ => rfl)).setCell (p := ⟨g0, 2, none⟩) _ (fun _ => rfl)
        exact ⟨k + 1, by omega, by go_num, by rw [EA.out, EB.out, EX.out]; exact heap_cell3 C0.out, us.heap C1.out (fun e => by have := HG1.out; omega), upd_cell3 U2.out (by have := HG0.out; omega) _ _ _⟩
      case measure => simp [intOf]; omega
    · obtain rfl : k = n := by omega
      obtain ⟨⟨d0, d1, d2⟩, _, _, _⟩ := cells3 hb0
      obtain ⟨⟨e0, e1, e2⟩, f0, f1, f2⟩ := cells3 hb1
      clear hb0 hb1 hu hlt
      go_wp2_with fail
      exact bodyPost_ret (results_cell_row rfl _ _ g1 93 _ (0, 0) _ rfl (heap_cell3 HB1.out) Try.underlying93 rfl (by kernel_rfl)) rfl ⟨rfl, upd_cell3 HU.out (by have := HG0.out; have := HG1.out; omega) _ _ _⟩
set_option maxRecDepth 100000 in
set_option maxHeartbeats 2000000 in
theorem likeness_any (A B X : Int) (w : World) (hA : 0 ≤ A ∧ A ≤ 562949953421312) (hB : 0 ≤ B ∧ B ≤ 562949953421312) (hX : -562949953421312 ≤ X ∧ X ≤ 562949953421312) (h0 : X ≠ 0) :
    Calls Try.prog 93 #[.agg #[.int .i64 A, .int .i64 B, .int .i64 X]] w fun e w' => e = .returned (.int .i64 ((256 * max X (-X)) / max (max A B) (max X (-X)))) ∧ Upd NoB w w' := by
  have hu : Upd NoB w (w.alloc (.cells #[.int .i64 A, .int .i64 B, .int .i64 X] 93)) := (Upd.refl _ _).alloc _
  obtain ⟨⟨d0, d1, d2⟩, _, _, _⟩ := cells3 (heap_alloc_new w (.cells #[.int .i64 A, .int .i64 B, .int .i64 X] 93))
  have HU := Lib.hid hu
  have y1 : IntKind.i64.wrap (-X) = -X := IntWalk.i64_in _ (by omega)
  have y2 : wrap64 (-X) = -X := IntWalk.wrap64_in _ (by omega)
  have y3 : IntKind.i64.wrap (256 * max X (-X)) = 256 * max X (-X) := IntWalk.i64_in _ (by omega)
  have y4 : wrap64 (256 * max X (-X)) = 256 * max X (-X) := IntWalk.wrap64_in _ (by omega)
  clear hu
  go_enter Try.func93, Try.ntmps93
  go_wp2_with fail
  all_goals
    go_ret
    refine ⟨?_, HU.out⟩
    first
      | (rw [show max A (max B (max X (-X))) = A by omega]; rfl)
      | (rw [show max A (max B (max X (-X))) = B by omega]; rfl)
      | (rw [show max A (max B (max X (-X))) = max X (-X) by omega]; rfl)
set_option maxRecDepth 100000 in
set_option maxHeartbeats 2000000 in
theorem signed_any (A B X : Int) (w : World) (hA : 0 ≤ A ∧ A ≤ 562949953421312) (hB : 0 ≤ B ∧ B ≤ 562949953421312) (hX : -562949953421312 ≤ X ∧ X ≤ 562949953421312) :
    Calls Try.prog 92 #[.int .i64 X, .func (.func 93) #[.agg #[.int .i64 A, .int .i64 B, .int .i64 X]] #[]] w fun e w' => e = .returned (.int .i64 (crF A B X)) ∧ Upd NoB w w' := by
  have HL := Lib.hid (fun h w => likeness_any A B X w hA hB hX h)
  have hpos : 0 ≤ (256 * max X (-X)) / max (max A B) (max X (-X)) ∧ (256 * max X (-X)) / max (max A B) (max X (-X)) ≤ 144115188075855872 := by
    have h1 : 0 ≤ max (max A B) (max X (-X)) := by omega
    refine ⟨Int.ediv_nonneg (by omega) h1, Int.le_trans (Int.ediv_le_self _ (by omega)) (by omega)⟩
  by_cases h1 : X < 0
  · have t1 : decide (X < 0) = true := decide_eq_true h1
    have hR : crF A B X = -((256 * max X (-X)) / max (max A B) (max X (-X))) := by
      unfold crF
      rw [if_pos h1, show max X (-X) = -X by omega]
    have HC := Lib.hid (HL.out (by omega) w)
    rw [hR]
    generalize (256 * max X (-X)) / max (max A B) (max X (-X)) = q at *
    have z1 : wrap64 (-q) = -q := IntWalk.wrap64_in _ (by omega)
    have z2 : IntKind.i64.wrap (-q) = -q := IntWalk.i64_in _ (by omega)
    clear hR h1 hA hB hX hpos
    go_enter Try.func92, Try.ntmps92
    go_wp2_with fail
    refine HC.out.mono ?_
    rintro e w2 ⟨rfl, u2⟩
    have U2 := Lib.hid u2
    clear u2
    go_wp2_with fail
    go_ret
    exact ⟨rfl, U2.out⟩
  · have t1 : decide (X < 0) = false := decide_eq_false h1
    by_cases h2 : 0 < X
    · have t2 : decide (0 < X) = true := decide_eq_true h2
      have hR : crF A B X = (256 * max X (-X)) / max (max A B) (max X (-X)) := by
        unfold crF
        rw [if_neg h1, if_pos h2, show max X (-X) = X by omega]
      have HC := Lib.hid (HL.out (by omega) w)
      rw [hR]
      generalize (256 * max X (-X)) / max (max A B) (max X (-X)) = q at *
      clear hR h1 h2 hA hB hX hpos
      go_enter Try.func92, Try.ntmps92
      go_wp2_with fail
      refine HC.out.mono ?_
      rintro e w2 ⟨rfl, u2⟩
      have U2 := Lib.hid u2
      clear u2
      go_wp2_with fail
      go_ret
      exact ⟨rfl, U2.out⟩
    · have t2 : decide (0 < X) = false := decide_eq_false h2
      have hR : crF A B X = 0 := by
        unfold crF
        rw [if_neg h1, if_neg h2]
      rw [hR]
      clear hR h1 h2 hA hB hX hpos
      go_enter Try.func92, Try.ntmps92
      go_wp2_with fail
      go_ret
      exact ⟨rfl, Upd.refl _ _⟩
theorem sums_in {p : Nat → Int × Int} {n : Nat} (hn : n ≤ 128) (hp : ∀ i, InP 2097152 (p i)) : (0 ≤ sqA p n ∧ sqA p n ≤ 562949953421312) ∧ (0 ≤ sqB p n ∧ sqB p n ≤ 562949953421312) ∧ (-562949953421312 ≤ prX p n ∧ prX p n ≤ 562949953421312) := by
  have h1 := sm_bd (A := 0) (B := 4398046511104) (g := fun t => (p t).1 * (p t).1) (n := n) (fun i _ => sSq_in (hp i).1)
  have h2 := sm_bd (A := 0) (B := 4398046511104) (g := fun t => (p t).2 * (p t).2) (n := n) (fun i _ => sSq_in (hp i).2)
  have h3 := sm_bd (A := -4398046511104) (B := 4398046511104) (g := fun t => (p t).1 * (p t).2) (n := n) (fun i _ => sMul_in (hp i).1 (hp i).2)
  unfold sqA sqB prX
  omega
set_option maxRecDepth 100000 in
set_option maxHeartbeats 1000000 in
theorem crossOf_any (b off n cap : Nat) (p : Nat → Int × Int) (w : World) (h : PrsA w b off p n) (hn : n ≤ 128) (hp : ∀ i, InP 2097152 (p i)) :
    Calls Try.prog 55 #[.slice (some ⟨b, off, none⟩) n cap] w fun r w' => r = .returned (.int .i64 (crV p n)) ∧ Upd NoB w w' := by
  have HA := Lib.hid (added_any b off n cap p w h hn hp)
  obtain ⟨s1, s2, s3⟩ := sums_in hn hp
  have HS := Lib.hid (fun w => signed_any (sqA p n) (sqB p n) (prX p n) w s1 s2 s3)
  have HR := Lib.hid (show crV p n = crF (sqA p n) (sqB p n) (prX p n) from rfl)
  rw [HR.out]
  generalize crF (sqA p n) (sqB p n) (prX p n) = V at *
  generalize sqA p n = A at *
  generalize sqB p n = B at *
  generalize prX p n = X at *
  clear h hp s1 s2 s3
  go_enter Try.func55, Try.ntmps55
  go_wp2_with fail
  refine HA.out.mono ?_
  rintro e w2 ⟨rfl, u2⟩
  have U2 := Lib.hid u2
  clear u2
  obtain ⟨⟨d0, d1, d2⟩, _, _, _⟩ := cells3 (heap_alloc_new w2 (.cells #[.int .i64 A, .int .i64 B, .int .i64 X] 93))
  go_wp2_with fail
  refine (HS.out _).mono ?_
  rintro e w3 ⟨rfl, u3⟩
  have U3 := Lib.hid ((U2.out.alloc _).then u3)
  clear u3
  go_wp2_with fail
  go_ret
  exact ⟨rfl, U3.out⟩
end Go.Proofs.Ytopjjdfnnjgnlaa
