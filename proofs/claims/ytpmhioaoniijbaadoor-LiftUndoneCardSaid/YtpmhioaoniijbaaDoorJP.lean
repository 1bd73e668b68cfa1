/- the reference's Mid and Sides; the law of middles -/
import Derived.Test.YtpmhioaoniijbaaDoorJM
namespace Go.Proofs.YtpmhioaoniijbaaDoor
open Go.RowKit Go.Shelf

set_option maxRecDepth 100000 in
set_option maxHeartbeats 1000000 in
theorem rwithin_any (M : Int) (v : Value) (xs : List Int) (w : World) (hM : 0 ≤ M) (hM2 : M ≤ 4611686018427387904) (h : Ints w v xs) : Calls Tryd.prog 54 #[.int .i64 M, v] w fun e w' => e = .returned (.bool (allIn M xs)) ∧ w' = w := by
  obtain ⟨hb, a, cap, rfl, hc, h3⟩ := h
  have H3 := Lib.hid h3; clear h3
  obtain ⟨L, hL⟩ : ∃ L, L = xs.length := ⟨_, rfl⟩
  have HL := Lib.hid hL
  rw [← hL] at hb ⊢
  clear hL hc
  have wn : IntKind.i64.wrap (-M) = -M := IntWalk.i64_in _ (by omega)
  go_enter Tryd.func54, Tryd.ntmps54
  go_wp2
  go_loop [9] (fun i => ∃ k : Nat, k ≤ L ∧ i = .int .i64 k ∧ ∀ j x, j < k → xs[j]? = some x → inB M x = true) (fun i => L - (intOf i).toNat)
  case atStart => exact ⟨0, Nat.zero_le _, rfl, fun j x hj => absurd hj (Nat.not_lt_zero _)⟩
  case round =>
    obtain ⟨k, hk, rfl, hj⟩ := hrel
    have Hj := Lib.hid hj; clear hj
    by_cases hlt : k < L
    · obtain ⟨x, hx⟩ : ∃ x, xs[k]? = some x := ⟨_, List.getElem?_eq_getElem (by rw [← HL.out]; exact hlt)⟩
      rcases H3.out with h3 | ⟨b, off, rfl, h3⟩
      · rw [h3] at hx; simp at hx
      have hcell := h3 k x hx
      have Hx := Lib.hid hx
      clear h3 hx
      by_cases h1 : x < -M
      · have t1 : decide (x < -M) = true := decide_eq_true h1
        have Hr := Lib.hid (allIn_false Hx.out (show inB M x = false from decide_eq_false (fun h => by omega)))
        clear h1
        go_wp2
        go_ret
        rw [Hr.out]
        exact ⟨rfl, rfl⟩
      · have t1 : decide (x < -M) = false := decide_eq_false h1
        by_cases h2 : M < x
        · have t2 : decide (M < x) = true := decide_eq_true h2
          have Hr := Lib.hid (allIn_false Hx.out (show inB M x = false from decide_eq_false (fun h => by omega)))
          clear h1 h2
          go_wp2
          go_ret
          rw [Hr.out]
          exact ⟨rfl, rfl⟩
        · have t2 : decide (M < x) = false := decide_eq_false h2
          have Hs := Lib.hid (show inB M x = true from decide_eq_true ⟨by omega, by omega⟩)
          clear h1 h2
          go_wp2
          go_round
          case rel => exact ⟨k + 1, by omega, by go_num, fun j y hj hy => by
            by_cases hjk : j < k
            · exact Hj.out j y hjk hy
            · obtain rfl : j = k := by omega
              rw [Hx.out] at hy
              injection hy with hy
              rw [← hy]; exact Hs.out⟩
          case measure => simp [intOf]; omega
    · obtain rfl : k = L := by omega
      have Hr := Lib.hid (allIn_true (M := M) (xs := xs) (fun j x hjl hx => Hj.out j x (by rw [HL.out]; exact hjl) hx))
      go_wp2
      go_ret
      rw [Hr.out]
      exact ⟨rfl, rfl⟩
theorem rwithin1 (M x : Int) (w : World) (hM : 0 ≤ M) (hM2 : M ≤ 4611686018427387904) : Calls Tryd.prog 54 #[.int .i64 M, .slice (some ⟨w.heap.size, 0, none⟩) 1 1] (w.alloc (.cells #[.int .i64 x] 3)) fun e w' => e = .returned (.bool (inB M x)) ∧ w' = w.alloc (.cells #[.int .i64 x] 3) := by
  have := rwithin_any M _ [x] (w.alloc (.cells #[.int .i64 x] 3)) hM hM2 (Ints.of1 (heap_alloc_new w _))
  rw [show allIn M [x] = inB M x by simp [allIn]] at this
  exact this
theorem rwithin2 (M x y : Int) (w : World) (hM : 0 ≤ M) (hM2 : M ≤ 4611686018427387904) : Calls Tryd.prog 54 #[.int .i64 M, .slice (some ⟨w.heap.size, 0, none⟩) 2 2] (w.alloc (.cells #[.int .i64 x, .int .i64 y] 3)) fun e w' => e = .returned (.bool (inB M x && inB M y)) ∧ w' = w.alloc (.cells #[.int .i64 x, .int .i64 y] 3) := by
  have := rwithin_any M _ [x, y] (w.alloc (.cells #[.int .i64 x, .int .i64 y] 3)) hM hM2 (Ints.of2 (heap_alloc_new w _))
  rw [show allIn M [x, y] = (inB M x && inB M y) by simp [allIn]] at this
  exact this

set_option maxRecDepth 100000 in
theorem rmid_any (l r : Int) (w : World) : Calls Tryd.prog 24 #[.int .i64 l, .int .i64 r] w fun e w' => e = .returned (.tuple #[.int .i64 (midV l r).1, .int .i64 (midV l r).2, .int .i64 (midE 1073741824 l r)]) ∧ Upd NoB w w' := by
  have U := Lib.hid ((Upd.refl NoB w).alloc (.cells #[.int .i64 l, .int .i64 r] 3))
  have HA := Lib.hid (rwithin2 1073741824 l r w (by omega) (by omega))
  cases h : (inB 1073741824 l && inB 1073741824 r) with
  | false =>
    have V := Lib.hid (show midV l r = (0, 0) by unfold midV; rw [h]; rfl)
    have E := Lib.hid (show midE 1073741824 l r = 6 by unfold midE; rw [h]; rfl)
    rw [h] at HA
    clear h
    rw [V.out, E.out]
    go_enter Tryd.func24, Tryd.ntmps24
    go_wp2_with fail
    refine HA.out.mono ?_
    rintro e w' ⟨rfl, rfl⟩
    go_wp2
    go_ret3
    exact ⟨rfl, U.out⟩
  | true =>
    have V := Lib.hid (show midV l r = (r + (l - r) / 2, l - r) by unfold midV; rw [h]; rfl)
    have E := Lib.hid (show midE 1073741824 l r = 0 by unfold midE; rw [h]; rfl)
    rw [h] at HA
    obtain ⟨h1, h2, h3, h4⟩ := inB_bd h
    simp only at h1 h2 h3 h4
    clear h
    rw [V.out, E.out]
    go_enter Tryd.func24, Tryd.ntmps24
    go_wp2_with fail
    refine HA.out.mono ?_
    rintro e w' ⟨rfl, rfl⟩
    go_wp2_with fail
    refine (down_any (l - r) 2 _ (by omega) (by omega) (by omega) (by omega)).mono ?_
    rintro e w' ⟨rfl, rfl⟩
    go_wp2
    go_ret3
    exact ⟨rfl, U.out⟩
set_option maxRecDepth 100000 in
theorem rsides_any (m s : Int) (w : World) : Calls Tryd.prog 26 #[.int .i64 m, .int .i64 s] w fun e w' => e = .returned (.tuple #[.int .i64 (sidV m s).1, .int .i64 (sidV m s).2, .int .i64 (midE 4294967296 m s)]) ∧ Upd NoB w w' := by
  have U := Lib.hid ((Upd.refl NoB w).alloc (.cells #[.int .i64 m, .int .i64 s] 3))
  have HA := Lib.hid (rwithin2 4294967296 m s w (by omega) (by omega))
  cases h : (inB 4294967296 m && inB 4294967296 s) with
  | false =>
    have V := Lib.hid (show sidV m s = (0, 0) by unfold sidV; rw [h]; rfl)
    have E := Lib.hid (show midE 4294967296 m s = 6 by unfold midE; rw [h]; rfl)
    rw [h] at HA
    clear h
    rw [V.out, E.out]
    go_enter Tryd.func26, Tryd.ntmps26
    go_wp2_with fail
    refine HA.out.mono ?_
    rintro e w' ⟨rfl, rfl⟩
    go_wp2
    go_ret3
    exact ⟨rfl, U.out⟩
  | true =>
    have V := Lib.hid (show sidV m s = (m - s / 2 + s, m - s / 2) by unfold sidV; rw [h]; rfl)
    have E := Lib.hid (show midE 4294967296 m s = 0 by unfold midE; rw [h]; rfl)
    rw [h] at HA
    obtain ⟨h1, h2, h3, h4⟩ := inB_bd h
    simp only at h1 h2 h3 h4
    clear h
    rw [V.out, E.out]
    go_enter Tryd.func26, Tryd.ntmps26
    go_wp2_with fail
    refine HA.out.mono ?_
    rintro e w' ⟨rfl, rfl⟩
    go_wp2_with fail
    refine (down_any s 2 _ (by omega) (by omega) (by omega) (by omega)).mono ?_
    rintro e w' ⟨rfl, rfl⟩
    go_wp2
    go_ret3
    exact ⟨rfl, U.out⟩
theorem midE_cases (M a b : Int) : (midE M a b = 0 ∧ (inB M a && inB M b) = true) ∨ midE M a b = 6 := by
  unfold midE
  cases h : (inB M a && inB M b) with
  | true => exact .inl ⟨rfl, rfl⟩
  | false => exact .inr rfl
set_option maxRecDepth 100000 in
set_option maxHeartbeats 2000000 in
theorem mids_law (a b : Int) (w : World) (hp : Parts w) : Calls Tryd.prog 5 #[.int .i64 a, .int .i64 b] w fun e w' => e = .returned (.bool true) ∧ Upd NoB w w' := by
  have P0 := Lib.hid hp; clear hp
  have hc := midE_cases 1073741824 a b
  have hm : midE 1073741824 a b = 0 → (midV a b).1 = (a + b) / 2 ∧ -1073741824 ≤ a ∧ a ≤ 1073741824 ∧ -1073741824 ≤ b ∧ b ≤ 1073741824 := fun h => by
    rcases hc with ⟨_, h2⟩ | h2
    · have := inB_bd h2
      unfold midV
      rw [if_pos h2]
      obtain ⟨h3, h4, h5, h6⟩ := this
      simp only at *
      omega
    · rw [h2] at h; exact absurd h (by decide)
  have M1 := Lib.hid (fun w => mid_any a b w)
  have M2 := Lib.hid (fun w => rmid_any a b w)
  have S1 := Lib.hid (fun w => sides_any a b w)
  have S2 := Lib.hid (fun w => rsides_any a b w)
  generalize (midV a b).2 = m2 at *
  generalize (midV a b).1 = m1 at *
  generalize (sidV a b).2 = s2 at *
  generalize (sidV a b).1 = s1 at *
  generalize midE 1073741824 a b = e1 at *
  generalize midE 4294967296 a b = e2 at *
  rcases hc with ⟨rfl, _⟩ | rfl
  · obtain ⟨hm1, h1, h2, h3, h4⟩ := hm rfl
    have HM1 := Lib.hid hm1
    clear hm hm1
    go_enter Tryd.func5, Tryd.ntmps5
    go_wp2_with fail
    (with_reducible refine (M1.out _).mono ?_)
    rintro e w1 ⟨rfl, u1⟩
    have U1 := Lib.hid u1; clear u1
    go_wp2_with fail
    (with_reducible refine (M2.out _).mono ?_)
    rintro e w2 ⟨rfl, u2⟩
    have U2 := Lib.hid (U1.out.then u2); clear u2
    go_wp2_with fail
    (with_reducible refine (S1.out _).mono ?_)
    rintro e w3 ⟨rfl, u3⟩
    have U3 := Lib.hid (U2.out.then u3); clear u3
    go_wp2_with fail
    (with_reducible refine (S2.out _).mono ?_)
    rintro e w4 ⟨rfl, u4⟩
    have U4 := Lib.hid (U3.out.then u4); clear u4
    go_wp2_with fail
    (with_reducible refine (down_any (a + b) 2 _ (by omega) (by omega) (by omega) (by omega)).mono ?_)
    rintro e w5 ⟨rfl, rfl⟩
    rw [HM1.out]
    go_wp2_with fail
    (with_reducible refine (jawake_any _ (P0.out.upd U4.out (noB 0))).mono ?_)
    rintro e w6 ⟨rfl, u6⟩
    have U6 := Lib.hid (U4.out.then u6); clear u6
    go_wp2
    go_ret
    exact ⟨rfl, U6.out⟩
  · clear hm
    go_enter Tryd.func5, Tryd.ntmps5
    go_wp2_with fail
    (with_reducible refine (M1.out _).mono ?_)
    rintro e w1 ⟨rfl, u1⟩
    have U1 := Lib.hid u1; clear u1
    go_wp2_with fail
    (with_reducible refine (M2.out _).mono ?_)
    rintro e w2 ⟨rfl, u2⟩
    have U2 := Lib.hid (U1.out.then u2); clear u2
    go_wp2_with fail
    (with_reducible refine (S1.out _).mono ?_)
    rintro e w3 ⟨rfl, u3⟩
    have U3 := Lib.hid (U2.out.then u3); clear u3
    go_wp2_with fail
    (with_reducible refine (S2.out _).mono ?_)
    rintro e w4 ⟨rfl, u4⟩
    have U4 := Lib.hid (U3.out.then u4); clear u4
    go_wp2_with fail
    (with_reducible refine (jawake_any _ (P0.out.upd U4.out (noB 0))).mono ?_)
    rintro e w6 ⟨rfl, u6⟩
    have U6 := Lib.hid (U4.out.then u6); clear u6
    go_wp2
    go_ret
    exact ⟨rfl, U6.out⟩
end Go.Proofs.YtpmhioaoniijbaaDoor
