/- areWithin, turnBy, Turn, Back, Mid, Sides -/
import Derived.Test.YtpmhioaoniijbaaDoorJC
import Derived.Test.YtpmhioaoniijbaaDoorJE
import Derived.Test.YtpmhioaoniijbaaDoorInt
namespace Go.Proofs.YtpmhioaoniijbaaDoor
open Go.RowKit Go.Shelf

def allIn (M : Int) (xs : List Int) : Bool := xs.all (inB M)
theorem allIn_false {M : Int} {xs : List Int} {k : Nat} {x : Int} (h : xs[k]? = some x) (hx : inB M x = false) : allIn M xs = false := by
  cases e : allIn M xs with
  | false => rfl
  | true =>
    have := List.all_eq_true.1 e x (List.mem_of_getElem? h)
    rw [hx] at this; cases this
theorem allIn_true {M : Int} {xs : List Int} (h : ∀ k x, k < xs.length → xs[k]? = some x → inB M x = true) : allIn M xs = true := by
  refine List.all_eq_true.2 fun x hx => ?_
  obtain ⟨k, hk⟩ := List.mem_iff_getElem?.1 hx
  exact h k x (List.getElem?_eq_some_iff.1 hk).1 hk
set_option maxRecDepth 100000 in
set_option maxHeartbeats 1000000 in
theorem areWithin_any (M : Int) (v : Value) (xs : List Int) (w : World) (hM : 0 ≤ M) (hM2 : M ≤ 4611686018427387904) (h : Ints w v xs) : Calls Tryd.prog 51 #[.int .i64 M, v] w fun e w' => e = .returned (.bool (allIn M xs)) ∧ w' = w := by
  obtain ⟨hb, a, cap, rfl, hc, h3⟩ := h
  have H3 := Lib.hid h3; clear h3
  obtain ⟨L, hL⟩ : ∃ L, L = xs.length := ⟨_, rfl⟩
  have HL := Lib.hid hL
  rw [← hL] at hb ⊢
  clear hL hc
  have wn : IntKind.i64.wrap (-M) = -M := IntWalk.i64_in _ (by omega)
  go_enter Tryd.func51, Tryd.ntmps51
  go_wp2
  go_loop [9] (fun i => ∃ k : Nat, k ≤ L ∧ i = .int .i64 k ∧ ∀ j x, j < k → xs[j]? = some x → inB M x = true) (fun i => L - (intOf i).toNat)
  case atStart => exact ⟨0, Nat.zero_le _, rfl, fun j x hj => absurd hj (Nat.not_lt_zero _)⟩
  case round =>
    obtain ⟨k, hk, rfl, hj⟩ := hrel
    have Hj := Lib.hid hj; clear hj
    by_cases hlt : k < L
    · obtain ⟨x, hx⟩ : ∃ x, xs[k]? = some x := ⟨_, List.getElem?_eq_getElem (by rw [← HL.out]; exact hlt)⟩
      rcases H3.out with h3 | ⟨b, off, rfl, h3⟩
      · rw [h3] at hx; simp at hx
      have hcell := h3 k x hx
      have Hx := Lib.hid hx
      clear h3 hx
      by_cases h1 : x < -M
      · have t1 : decide (x < -M) = true := decide_eq_true h1
        have Hr := Lib.hid (allIn_false Hx.out (show inB M x = false from decide_eq_false (fun h => by omega)))
        clear h1
        go_wp2
        go_ret
        rw [Hr.out]
        exact ⟨rfl, rfl⟩
      · have t1 : decide (x < -M) = false := decide_eq_false h1
        by_cases h2 : M < x
        · have t2 : decide (M < x) = true := decide_eq_true h2
          have Hr := Lib.hid (allIn_false Hx.out (show inB M x = false from decide_eq_false (fun h => by omega)))
          clear h1 h2
          go_wp2
          go_ret
          rw [Hr.out]
          exact ⟨rfl, rfl⟩
        · have t2 : decide (M < x) = false := decide_eq_false h2
          have Hs := Lib.hid (show inB M x = true from decide_eq_true ⟨by omega, by omega⟩)
          clear h1 h2
          go_wp2
          go_round
          case rel => exact ⟨k + 1, by omega, by go_num, fun j y hj hy => by
            by_cases hjk : j < k
            · exact Hj.out j y hjk hy
            · obtain rfl : j = k := by omega
              rw [Hx.out] at hy
              injection hy with hy
              rw [← hy]; exact Hs.out⟩
          case measure => simp [intOf]; omega
    · obtain rfl : k = L := by omega
      have Hr := Lib.hid (allIn_true (M := M) (xs := xs) (fun j x hjl hx => Hj.out j x (by rw [HL.out]; exact hjl) hx))
      go_wp2
      go_ret
      rw [Hr.out]
      exact ⟨rfl, rfl⟩
theorem Ints.of1 {w : World} {b : Nat} {x : Int} {t : TypeId} (h : w.heap[b]? = some (.cells #[.int .i64 x] t (0, 0))) : Ints w (.slice (some ⟨b, 0, none⟩) 1 1) [x] := by
  refine ⟨by simp, some ⟨b, 0, none⟩, 1, rfl, ⟨by simp, fun e => by cases e⟩, .inr ⟨b, 0, rfl, fun j y hj => ?_⟩⟩
  rcases j with _ | j
  · simp at hj; subst hj; simp [World.cell?, h]
  · simp at hj
theorem Ints.of2 {w : World} {b : Nat} {x y : Int} {t : TypeId} (h : w.heap[b]? = some (.cells #[.int .i64 x, .int .i64 y] t (0, 0))) : Ints w (.slice (some ⟨b, 0, none⟩) 2 2) [x, y] := by
  refine ⟨by simp, some ⟨b, 0, none⟩, 2, rfl, ⟨by simp, fun e => by cases e⟩, .inr ⟨b, 0, rfl, fun j z hj => ?_⟩⟩
  rcases j with _ | _ | j
  · simp at hj; subst hj; simp [World.cell?, h]
  · simp at hj; subst hj; simp [World.cell?, h]
  · simp at hj
theorem within1 (M x : Int) (w : World) (hM : 0 ≤ M) (hM2 : M ≤ 4611686018427387904) : Calls Tryd.prog 51 #[.int .i64 M, .slice (some ⟨w.heap.size, 0, none⟩) 1 1] (w.alloc (.cells #[.int .i64 x] 3)) fun e w' => e = .returned (.bool (inB M x)) ∧ w' = w.alloc (.cells #[.int .i64 x] 3) := by
  have := areWithin_any M _ [x] (w.alloc (.cells #[.int .i64 x] 3)) hM hM2 (Ints.of1 (heap_alloc_new w _))
  rw [show allIn M [x] = inB M x by simp [allIn]] at this
  exact this
theorem within2 (M x y : Int) (w : World) (hM : 0 ≤ M) (hM2 : M ≤ 4611686018427387904) : Calls Tryd.prog 51 #[.int .i64 M, .slice (some ⟨w.heap.size, 0, none⟩) 2 2] (w.alloc (.cells #[.int .i64 x, .int .i64 y] 3)) fun e w' => e = .returned (.bool (inB M x && inB M y)) ∧ w' = w.alloc (.cells #[.int .i64 x, .int .i64 y] 3) := by
  have := areWithin_any M _ [x, y] (w.alloc (.cells #[.int .i64 x, .int .i64 y] 3)) hM hM2 (Ints.of2 (heap_alloc_new w _))
  rw [show allIn M [x, y] = (inB M x && inB M y) by simp [allIn]] at this
  exact this

/-! Mid and Sides -/
def midE (M a b : Int) : Int := if inB M a && inB M b then 0 else 6
def midV (l r : Int) : Int × Int := if inB 1073741824 l && inB 1073741824 r then (r + (l - r) / 2, l - r) else (0, 0)
def sidV (m s : Int) : Int × Int := if inB 4294967296 m && inB 4294967296 s then (m - s / 2 + s, m - s / 2) else (0, 0)
set_option maxRecDepth 100000 in
theorem mid_any (l r : Int) (w : World) : Calls Tryd.prog 23 #[.int .i64 l, .int .i64 r] w fun e w' => e = .returned (.tuple #[.int .i64 (midV l r).1, .int .i64 (midV l r).2, .int .i64 (midE 1073741824 l r)]) ∧ Upd NoB w w' := by
  have U := Lib.hid ((Upd.refl NoB w).alloc (.cells #[.int .i64 l, .int .i64 r] 3))
  have HA := Lib.hid (within2 1073741824 l r w (by omega) (by omega))
  cases h : (inB 1073741824 l && inB 1073741824 r) with
  | false =>
    have V := Lib.hid (show midV l r = (0, 0) by unfold midV; rw [h]; rfl)
    have E := Lib.hid (show midE 1073741824 l r = 6 by unfold midE; rw [h]; rfl)
    rw [h] at HA
    clear h
    rw [V.out, E.out]
    go_enter Tryd.func23, Tryd.ntmps23
    go_wp2_with fail
    refine HA.out.mono ?_
    rintro e w' ⟨rfl, rfl⟩
    go_wp2
    go_ret3
    exact ⟨rfl, U.out⟩
  | true =>
    have V := Lib.hid (show midV l r = (r + (l - r) / 2, l - r) by unfold midV; rw [h]; rfl)
    have E := Lib.hid (show midE 1073741824 l r = 0 by unfold midE; rw [h]; rfl)
    rw [h] at HA
    obtain ⟨h1, h2, h3, h4⟩ := inB_bd h
    simp only at h1 h2 h3 h4
    clear h
    rw [V.out, E.out]
    go_enter Tryd.func23, Tryd.ntmps23
    go_wp2_with fail
    refine HA.out.mono ?_
    rintro e w' ⟨rfl, rfl⟩
    go_wp2_with fail
    refine (half_any (l - r) _).mono ?_
    rintro e w' ⟨rfl, rfl⟩
    go_wp2
    go_ret3
    exact ⟨rfl, U.out⟩
set_option maxRecDepth 100000 in
theorem sides_any (m s : Int) (w : World) : Calls Tryd.prog 25 #[.int .i64 m, .int .i64 s] w fun e w' => e = .returned (.tuple #[.int .i64 (sidV m s).1, .int .i64 (sidV m s).2, .int .i64 (midE 4294967296 m s)]) ∧ Upd NoB w w' := by
  have U := Lib.hid ((Upd.refl NoB w).alloc (.cells #[.int .i64 m, .int .i64 s] 3))
  have HA := Lib.hid (within2 4294967296 m s w (by omega) (by omega))
  cases h : (inB 4294967296 m && inB 4294967296 s) with
  | false =>
    have V := Lib.hid (show sidV m s = (0, 0) by unfold sidV; rw [h]; rfl)
    have E := Lib.hid (show midE 4294967296 m s = 6 by unfold midE; rw [h]; rfl)
    rw [h] at HA
    clear h
    rw [V.out, E.out]
    go_enter Tryd.func25, Tryd.ntmps25
    go_wp2_with fail
    refine HA.out.mono ?_
    rintro e w' ⟨rfl, rfl⟩
    go_wp2
    go_ret3
    exact ⟨rfl, U.out⟩
  | true =>
    have V := Lib.hid (show sidV m s = (m - s / 2 + s, m - s / 2) by unfold sidV; rw [h]; rfl)
    have E := Lib.hid (show midE 4294967296 m s = 0 by unfold midE; rw [h]; rfl)
    rw [h] at HA
    obtain ⟨h1, h2, h3, h4⟩ := inB_bd h
    simp only at h1 h2 h3 h4
    clear h
    rw [V.out, E.out]
    go_enter Tryd.func25, Tryd.ntmps25
    go_wp2_with fail
    refine HA.out.mono ?_
    rintro e w' ⟨rfl, rfl⟩
    go_wp2_with fail
    refine (half_any s _).mono ?_
    rintro e w' ⟨rfl, rfl⟩
    go_wp2
    go_ret3
    exact ⟨rfl, U.out⟩
end Go.Proofs.YtpmhioaoniijbaaDoor
