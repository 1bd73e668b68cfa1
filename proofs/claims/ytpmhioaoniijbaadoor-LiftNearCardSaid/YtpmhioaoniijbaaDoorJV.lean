/- the law of nearness -/
import Derived.Test.YtpmhioaoniijbaaDoorJU
namespace Go.Proofs.YtpmhioaoniijbaaDoor
open Go.RowKit Go.Shelf

theorem rWithin_any (M : Int) (v : Value) (xs : List Int) (w : World) (hM : 0 ≤ M) (hM2 : M ≤ 4611686018427387904) (h : Ints w v xs) : Calls Tryd.prog 33 #[.int .i64 M, v] w fun e w' => e = .returned (.bool (allIn M xs)) ∧ w' = w := by
  have H := Lib.hid (rwithin_any M v xs w hM hM2 h)
  go_enter Tryd.func33, Tryd.ntmps33
  go_wp2_with fail
  (with_reducible refine H.out.mono ?_)
  rintro e w' ⟨rfl, rfl⟩
  go_wp2
  go_ret
  exact ⟨rfl, rfl⟩
theorem near_fin {x y n d : Int} (h : ttE 1073741824 x y n d = 0) (hb : (inB 1048576 x && inB 1048576 y) = true) : ∃ r s : Nat, rt (x * x + y * y).toNat = r ∧ rt ((turnV x y n d).1 * (turnV x y n d).1 + (turnV x y n d).2 * (turnV x y n d).2).toNat = s ∧
    (s : Int) ≤ r + 1 + 4 + (r + 1) / 4096 + 1 ∧ (r : Int) ≤ s + 1 + 4 + (r + 1) / 4096 + 1 ∧ r ≤ 2000000 ∧ s ≤ 20000000 ∧ 0 ≤ x * x + y * y ∧ x * x + y * y ≤ 2199023255552 ∧
    0 ≤ (turnV x y n d).1 * (turnV x y n d).1 + (turnV x y n d).2 * (turnV x y n d).2 ∧ (turnV x y n d).1 * (turnV x y n d).1 + (turnV x y n d).2 * (turnV x y n d).2 ≤ 200000000000000 ∧ Bd 8388615 (turnV x y n d) := by
  have bd := inB_bd hb
  have ht : turE n d = 0 := by
    rcases ttE_cases 1073741824 x y n d with h' | h' | h'
    · rw [h'.2] at h; exact absurd h h'.1
    · omega
    · exact h'.1
  have ok := turE_ok ht
  have V : turnV x y n d = liftF (turA n d) (turB n d) 1 (rot (x, y) (turQ n d)) := by unfold turnV; rw [if_pos h]; rfl
  have b2 := forth_bd (q := turQ n d) (turA_in (n := n) ok.1).1 (turA_in (n := n) ok.1).2 (turB_in n d).1 (turB_in n d).2 bd
  have hf := tur_fit (n := n) ok.1
  have V2 : turnV x y n d = forthF (turQ n d) (turA n d) (turB n d) (x, y) := by unfold turnV; rw [if_pos h]; rfl
  rw [← V2] at b2
  have hN : nrm (rot (x, y) (turQ n d)) = x * x + y * y := by rw [nrm_rot]; rfl
  have hM : nrm (liftF (turA n d) (turB n d) 1 (rot (x, y) (turQ n d))) = (turnV x y n d).1 * (turnV x y n d).1 + (turnV x y n d).2 * (turnV x y n d).2 := by rw [← V]; rfl
  obtain ⟨c1, c2, c3, c4⟩ := bd
  obtain ⟨f1, f2, f3, f4⟩ := b2
  simp only at c1 c2 c3 c4
  have q1 := abs_mul (a := x) (b := x) c1 c2 c1 c2
  have q2 := abs_mul (a := y) (b := y) c3 c4 c3 c4
  have q3 := abs_mul (M := 8388615) (N := 8388615) (a := (turnV x y n d).1) (b := (turnV x y n d).1) (by omega) (by omega) (by omega) (by omega)
  have q4 := abs_mul (M := 8388615) (N := 8388615) (a := (turnV x y n d).2) (b := (turnV x y n d).2) (by omega) (by omega) (by omega) (by omega)
  have p1 := sq_nn x
  have p2 := sq_nn y
  have p3 := sq_nn (turnV x y n d).1
  have p4 := sq_nn (turnV x y n d).2
  have key : ∀ r s : Int, 0 ≤ r → 0 ≤ s → r * r ≤ x * x + y * y → x * x + y * y < (r + 1) * (r + 1) → s * s ≤ (turnV x y n d).1 * (turnV x y n d).1 + (turnV x y n d).2 * (turnV x y n d).2 → (turnV x y n d).1 * (turnV x y n d).1 + (turnV x y n d).2 * (turnV x y n d).2 < (s + 1) * (s + 1) →
      8000 * (s - r) ≤ r + 32100 ∧ 8000 * (r - s) ≤ r + 32100 := fun r s r0 s0 h1 h2 h3 h4 =>
    sqr_near (.inl rfl) hf r0 s0 (by rw [hN]; exact h1) (by rw [hN]; exact h2) (by rw [hM]; exact h3) (by rw [hM]; exact h4)
  have B2 : Bd 8388615 (turnV x y n d) := ⟨by omega, by omega, by omega, by omega⟩
  clear hN hM V V2 f1 f2 f3 f4 hf ok
  generalize (turnV x y n d).1 * (turnV x y n d).1 = a1 at *
  generalize (turnV x y n d).2 * (turnV x y n d).2 = a2 at *
  generalize x * x = b1 at *
  generalize y * y = b2 at *
  obtain ⟨N, hN⟩ : ∃ N : Nat, b1 + b2 = N := ⟨(b1 + b2).toNat, by omega⟩
  obtain ⟨K, hK⟩ : ∃ K : Nat, a1 + a2 = K := ⟨(a1 + a2).toNat, by omega⟩
  rw [hN, hK] at key ⊢
  rw [Int.toNat_natCast, Int.toNat_natCast]
  have sN := rt_spec (n := N) (by omega)
  have sK := rt_spec (n := K) (by omega)
  generalize rt N = r at *
  generalize rt K = s at *
  have kk := key r s (by omega) (by omega) (by have := Int.ofNat_le.2 sN.1; push_cast at this; omega) (by have := Int.ofNat_lt.2 sN.2; push_cast at this; omega) (by have := Int.ofNat_le.2 sK.1; push_cast at this; omega) (by have := Int.ofNat_lt.2 sK.2; push_cast at this; omega)
  have r2 : r ≤ 2000000 := by
    rcases Nat.lt_or_ge 2000000 r with k | k
    · have := Nat.mul_le_mul (show 2000001 ≤ r by omega) (show 2000001 ≤ r by omega); omega
    · exact k
  refine ⟨r, s, rfl, rfl, by omega, by omega, r2, by omega, by omega, by omega, by omega, by omega, B2⟩
set_option maxRecDepth 100000 in
set_option maxHeartbeats 2000000 in
theorem near_law (x y n d : Int) (w : World) (hp : Parts w) : Calls Tryd.prog 9 #[.agg #[.int .i64 x, .int .i64 y], .int .i64 n, .int .i64 d] w fun e w' => e = .returned (.bool true) ∧ Upd NoB w w' := by
  obtain ⟨W, hW⟩ : ∃ W, W = w.alloc (.cells #[.int .i64 x, .int .i64 y] 27) := ⟨_, rfl⟩
  have b0 : W.heap[w.heap.size]? = some (.cells #[.int .i64 x, .int .i64 y] 27 (0, 0)) := by rw [hW]; exact heap_alloc_new w _
  have u : Upd NoB w W := by rw [hW]; exact (Upd.refl _ _).alloc _
  have P0 := Lib.hid (hp.upd u (noB 0))
  have U0 := Lib.hid u
  have HB := Lib.hid (fun (w' : World) (u : Upd NoB W w') => (show w'.cell? ⟨w.heap.size, 0, none⟩ = some (.int .i64 x) ∧ w'.cell? ⟨w.heap.size, 1, none⟩ = some (.int .i64 y) from ⟨cell_of_block0 (u.heap b0 (noB _)), cell_of_block1 (u.heap b0 (noB _))⟩))
  have HW := Lib.hid hW
  have h2 := rWithin_any 1048576 _ [x, y] W (by omega) (by omega) (Ints.of2 b0)
  rw [show allIn 1048576 [x, y] = (inB 1048576 x && inB 1048576 y) by simp [allIn]] at h2
  clear hW b0 u hp
  obtain ⟨k0, k1⟩ := HB.out W (Upd.refl _ _)
  cases hb : (inB 1048576 x && inB 1048576 y) with
  | false =>
    rw [hb] at h2
    have H2 := Lib.hid h2
    clear h2 hb
    go_enter Tryd.func9, Tryd.ntmps9
    go_wp2_with fail
    rw [← HW.out]
    go_wp2_with fail
    (with_reducible refine H2.out.mono ?_)
    rintro e w1 ⟨rfl, rfl⟩
    go_wp2_with fail
    (with_reducible refine (jawake_any _ P0.out).mono ?_)
    rintro e w2 ⟨rfl, u2⟩
    have U2 := Lib.hid (U0.out.then u2); clear u2
    go_wp2
    go_ret
    exact ⟨rfl, U2.out⟩
  | true =>
    rw [hb] at h2
    have H2 := Lib.hid h2
    clear h2
    have T1 := Lib.hid (fun w hp => turn_any x y n d w hp)
    by_cases he : ttE 1073741824 x y n d = 0
    · obtain ⟨r, s, er, es, c1, c2, c3, c4, c5, c6, c7, c8, ⟨d1, d2, d3, d4⟩⟩ := near_fin he hb
      have bd := inB_bd hb
      obtain ⟨e1, e2, e3, e4⟩ := bd
      simp only at e1 e2 e3 e4
      have q1 := abs_mul (a := x) (b := x) e1 e2 e1 e2
      have q2 := abs_mul (a := y) (b := y) e3 e4 e3 e4
      rw [he] at T1
      obtain ⟨a, ea⟩ : ∃ a, (turnV x y n d).1 = a := ⟨_, rfl⟩
      obtain ⟨b, eb⟩ : ∃ b, (turnV x y n d).2 = b := ⟨_, rfl⟩
      rw [ea] at es c7 c8 d1 d2 T1
      rw [eb] at es c7 c8 d3 d4 T1
      have q3 := abs_mul (a := a) (b := a) d1 d2 d1 d2
      have q4 := abs_mul (a := b) (b := b) d3 d4 d3 d4
      obtain ⟨xx, exx⟩ : ∃ xx, x * x = xx := ⟨_, rfl⟩
      obtain ⟨yy, eyy⟩ : ∃ yy, y * y = yy := ⟨_, rfl⟩
      obtain ⟨aa, eaa⟩ : ∃ aa, a * a = aa := ⟨_, rfl⟩
      obtain ⟨bb, ebb⟩ : ∃ bb, b * b = bb := ⟨_, rfl⟩
      rw [exx] at er c5 c6 q1
      rw [eyy] at er c5 c6 q2
      rw [eaa] at es c7 c8 q3
      rw [ebb] at es c7 c8 q4
      have w1 : IntKind.i64.wrap (x * x) = xx := by rw [exx]; exact IntWalk.i64_in _ (by omega)
      have w2 : IntKind.i64.wrap (y * y) = yy := by rw [eyy]; exact IntWalk.i64_in _ (by omega)
      have w3 : IntKind.i64.wrap (a * a) = aa := by rw [eaa]; exact IntWalk.i64_in _ (by omega)
      have w4 : IntKind.i64.wrap (b * b) = bb := by rw [ebb]; exact IntWalk.i64_in _ (by omega)
      have R1 := rRoot_any (xx + yy)
      have R2 := rRoot_any (aa + bb)
      have rE : ∀ N : Int, 0 ≤ N → N ≤ 200000000000000 → rtE N = 0 := fun N h1 h2 => by unfold rtE; rw [if_neg (by omega)]
      rw [rE _ c5 (by omega), er] at R1
      rw [rE _ c7 (by omega), es] at R2
      have HR1 := Lib.hid (show ∀ w, Calls Tryd.prog 34 #[.int .i64 (xx + yy)] w fun e w' => e = .returned (.tuple #[.int .i64 (r : Int), .int .i64 0]) ∧ w' = w from R1)
      have HR2 := Lib.hid (show ∀ w, Calls Tryd.prog 34 #[.int .i64 (aa + bb)] w fun e w' => e = .returned (.tuple #[.int .i64 (s : Int), .int .i64 0]) ∧ w' = w from R2)
      have g1 : decide ((s : Int) ≤ r + 1 + 4 + (r + 1) / 4096 + 1) = true := decide_eq_true c1
      have g2 : decide ((r : Int) ≤ s + 1 + 4 + (r + 1) / 4096 + 1) = true := decide_eq_true c2
      clear R1 R2 er es exx eyy eaa ebb ea eb he hb
      go_enter Tryd.func9, Tryd.ntmps9
      go_wp2_with fail
      rw [← HW.out]
      go_wp2_with fail
      (with_reducible refine H2.out.mono ?_)
      rintro e w1 ⟨rfl, rfl⟩
      go_wp2_with fail
      (with_reducible refine (T1.out _ P0.out).mono ?_)
      rintro e w2 ⟨rfl, u2⟩
      have U2 := Lib.hid u2; clear u2 k0 k1
      obtain ⟨k0, k1⟩ := HB.out w2 U2.out
      go_wp2_with fail
      (with_reducible refine (HR1.out _).mono ?_)
      rintro e w3 ⟨rfl, rfl⟩
      go_wp2_with fail
      (with_reducible refine (HR2.out _).mono ?_)
      rintro e w4 ⟨rfl, rfl⟩
      go_wp2_with fail
      (with_reducible refine (jawake_any _ (P0.out.upd U2.out (noB 0))).mono ?_)
      rintro e w5 ⟨rfl, u5⟩
      have U5 := Lib.hid ((U0.out.then U2.out).then u5); clear u5
      go_wp2
      go_ret
      exact ⟨rfl, U5.out⟩
    · have t : (ttE 1073741824 x y n d != 0) = true := by simpa using he
      generalize (turnV x y n d).1 = a1 at *
      generalize (turnV x y n d).2 = a2 at *
      generalize ttE 1073741824 x y n d = e1 at *
      clear he hb
      go_enter Tryd.func9, Tryd.ntmps9
      go_wp2_with fail
      rw [← HW.out]
      go_wp2_with fail
      (with_reducible refine H2.out.mono ?_)
      rintro e w1 ⟨rfl, rfl⟩
      go_wp2_with fail
      (with_reducible refine (T1.out _ P0.out).mono ?_)
      rintro e w2 ⟨rfl, u2⟩
      have U2 := Lib.hid u2; clear u2
      go_wp2_with fail
      (with_reducible refine (jawake_any _ (P0.out.upd U2.out (noB 0))).mono ?_)
      rintro e w5 ⟨rfl, u5⟩
      have U5 := Lib.hid ((U0.out.then U2.out).then u5); clear u5
      go_wp2
      go_ret
      exact ⟨rfl, U5.out⟩
end Go.Proofs.YtpmhioaoniijbaaDoor
