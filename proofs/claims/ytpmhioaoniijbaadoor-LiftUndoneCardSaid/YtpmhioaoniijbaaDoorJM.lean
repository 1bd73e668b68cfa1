/- the chapter's examples hold -/
import Derived.Test.YtpmhioaoniijbaaDoorJL
namespace Go.Proofs.YtpmhioaoniijbaaDoor
open Go.RowKit Go.Shelf

theorem jwTurn1 (w : World) (hp : Parts w) : Calls Tryd.prog 18 #[.int .i64 3, .int .i64 5, .int .i64 1, .int .i64 4] w fun e w' => e = .returned (.tuple #[.int .i64 (-5), .int .i64 3, .int .i64 0]) ∧ Upd NoB w w' := by
  have h := turn_any 3 5 1 4 w hp
  rw [show turnV 3 5 1 4 = (-5, 3) by decide +kernel, show ttE 1073741824 3 5 1 4 = 0 by decide +kernel] at h
  exact h
theorem jwTurn2 (w : World) (hp : Parts w) : Calls Tryd.prog 18 #[.int .i64 1000, .int .i64 0, .int .i64 1, .int .i64 8] w fun e w' => e = .returned (.tuple #[.int .i64 707, .int .i64 707, .int .i64 0]) ∧ Upd NoB w w' := by
  have h := turn_any 1000 0 1 8 w hp
  rw [show turnV 1000 0 1 8 = (707, 707) by decide +kernel, show ttE 1073741824 1000 0 1 8 = 0 by decide +kernel] at h
  exact h
theorem jwMid1 (w : World) : Calls Tryd.prog 23 #[.int .i64 7, .int .i64 4] w fun e w' => e = .returned (.tuple #[.int .i64 5, .int .i64 3, .int .i64 0]) ∧ Upd NoB w w' := by
  have h := mid_any 7 4 w
  rw [show midV 7 4 = (5, 3) by decide +kernel, show midE 1073741824 7 4 = 0 by decide +kernel] at h
  exact h
theorem jwMid2 (w : World) : Calls Tryd.prog 23 #[.int .i64 4, .int .i64 7] w fun e w' => e = .returned (.tuple #[.int .i64 5, .int .i64 (-3), .int .i64 0]) ∧ Upd NoB w w' := by
  have h := mid_any 4 7 w
  rw [show midV 4 7 = (5, -3) by decide +kernel, show midE 1073741824 4 7 = 0 by decide +kernel] at h
  exact h
theorem jwSides (w : World) : Calls Tryd.prog 25 #[.int .i64 5, .int .i64 (-3)] w fun e w' => e = .returned (.tuple #[.int .i64 4, .int .i64 7, .int .i64 0]) ∧ Upd NoB w w' := by
  have h := sides_any 5 (-3) w
  rw [show sidV 5 (-3) = (4, 7) by decide +kernel, show midE 4294967296 5 (-3) = 0 by decide +kernel] at h
  exact h
theorem Ints.of3 {w : World} {b : Nat} {x y z : Int} {t : TypeId} (h : w.heap[b]? = some (.cells #[.int .i64 x, .int .i64 y, .int .i64 z] t (0, 0))) : Ints w (.slice (some ⟨b, 0, none⟩) 3 3) [x, y, z] := by
  refine ⟨by simp, some ⟨b, 0, none⟩, 3, rfl, ⟨by simp, fun e => by cases e⟩, .inr ⟨b, 0, rfl, fun j u hj => ?_⟩⟩
  rcases j with _ | _ | _ | j
  · simp at hj; subst hj; simp [World.cell?, h]
  · simp at hj; subst hj; simp [World.cell?, h]
  · simp at hj; subst hj; simp [World.cell?, h]
  · simp at hj
def jwT : Tn := ⟨0, 2, 1, 4⟩
theorem Tns.of1 {w : World} {b : Nat} {t : TypeId} (h : w.heap[b]? = some (.cells #[.int .i64 0, .int .i64 2, .int .i64 1, .int .i64 4] t (0, 0))) : Tns w (.slice (some ⟨b, 0, none⟩) 1 1) [jwT] := by
  refine ⟨by simp, some ⟨b, 0, none⟩, 1, rfl, .inr ⟨b, 0, rfl, fun j u hj => ?_⟩⟩
  rcases j with _ | j
  · simp at hj
    subst hj
    exact ⟨by simp [World.cell?, h, jwT], by simp [World.cell?, h, jwT], by simp [World.cell?, h, jwT], by simp [World.cell?, h, jwT]⟩
  · simp at hj
theorem jwApply (w W : World) (hp : Parts w) (hW : W = (w.alloc (.cells #[.int .i64 3, .int .i64 0, .int .i64 5] 3)).alloc (.cells #[.int .i64 0, .int .i64 2, .int .i64 1, .int .i64 4] 60)) :
    Calls Tryd.prog 28 #[.slice (some ⟨w.heap.size, 0, none⟩) 3 3, .slice (some ⟨w.heap.size + 1, 0, none⟩) 1 1] W fun e w' => ∃ v, e = .returned (.tuple #[v, .int .i64 0]) ∧ Ints w' v [-5, 0, 3] ∧ Upd NoB W w' := by
  obtain ⟨h0, h1, u⟩ := boxes2 w (.cells #[.int .i64 3, .int .i64 0, .int .i64 5] 3) (.cells #[.int .i64 0, .int .i64 2, .int .i64 1, .int .i64 4] 60)
  rw [← hW] at h0 h1 u
  have h := apply_any _ _ [3, 0, 5] [jwT] W (Ints.of3 h0) (Tns.of1 h1) (hp.upd u (noB _)) (fun _ => by decide)
  rw [show appV [3, 0, 5] [jwT] = [-5, 0, 3] by decide +kernel, show stpE 1048576 [3, 0, 5] [jwT] = 0 by decide +kernel] at h
  exact h.mono fun e w' ⟨v, he, hr, hu⟩ => ⟨v, he, Ints.ofRow hr (by decide), hu⟩
theorem jwUndo (v : Value) (w W : World) (hp : Parts w) (hv : Ints w v [-5, 0, 3]) (hW : W = w.alloc (.cells #[.int .i64 0, .int .i64 2, .int .i64 1, .int .i64 4] 60)) :
    Calls Tryd.prog 30 #[v, .slice (some ⟨w.heap.size, 0, none⟩) 1 1] W fun e w' => ∃ v, e = .returned (.tuple #[v, .int .i64 0]) ∧ Ints w' v [3, 0, 5] ∧ Upd NoB W w' := by
  have u : Upd NoB w W := by rw [hW]; exact (Upd.refl _ _).alloc _
  have h1 : W.heap[w.heap.size]? = some (.cells #[.int .i64 0, .int .i64 2, .int .i64 1, .int .i64 4] 60 (0, 0)) := by rw [hW]; exact heap_alloc_new _ _
  have h := undo_any _ _ [-5, 0, 3] [jwT] W (hv.later u) (Tns.of1 h1) (hp.upd u (noB _)) (fun _ => by decide)
  rw [show undV [-5, 0, 3] [jwT] = [3, 0, 5] by decide +kernel, show stpE 1073741824 [-5, 0, 3] [jwT] = 0 by decide +kernel] at h
  exact h.mono fun e w' ⟨v, he, hr, hu⟩ => ⟨v, he, Ints.ofRow hr (by decide), hu⟩
theorem jwInts (v : Value) (x y z : Int) (w W : World) (hv : Ints w v [x, y, z]) (hW : W = w.alloc (.cells #[.int .i64 x, .int .i64 y, .int .i64 z] 3)) :
    Calls Tryd.prog 32 #[v, .slice (some ⟨w.heap.size, 0, none⟩) 3 3] W fun e w' => e = .returned (.bool true) ∧ Upd NoB w w' := by
  have u : Upd NoB w W := by rw [hW]; exact (Upd.refl _ _).alloc _
  have h1 : W.heap[w.heap.size]? = some (.cells #[.int .i64 x, .int .i64 y, .int .i64 z] 3 (0, 0)) := by rw [hW]; exact heap_alloc_new _ _
  have h := qints_any _ _ [x, y, z] [x, y, z] W (hv.later u) (Ints.of3 h1)
  rw [intsB_self] at h
  exact h.mono fun e w' ⟨he, n, hn⟩ => ⟨he, by subst hn; exact upd_drewN u n⟩
set_option maxRecDepth 100000 in
set_option maxHeartbeats 4000000 in
theorem jawake_any (w : World) (hp : Parts w) : Calls Tryd.prog 22 #[] w fun e w' => e = .returned (.bool true) ∧ Upd NoB w w' := by
  have P0 := Lib.hid hp; clear hp
  have U0 := Lib.hid (Upd.refl NoB w)
  go_enter Tryd.func22, Tryd.ntmps22
  go_wp2_with fail
  refine (jwTurn1 _ P0.out).mono ?_
  rintro e w1 ⟨rfl, u⟩
  have P1 := Lib.hid (P0.out.upd u (noB 0))
  have U1 := Lib.hid (U0.out.then u)
  clear u U0 P0
  go_wp2_with fail
  refine (jwTurn2 _ P1.out).mono ?_
  rintro e w2 ⟨rfl, u⟩
  have P2 := Lib.hid (P1.out.upd u (noB 0))
  have U2 := Lib.hid (U1.out.then u)
  clear u U1 P1
  go_wp2_with fail
  refine (jwMid1 _).mono ?_
  rintro e w3 ⟨rfl, u⟩
  have P3 := Lib.hid (P2.out.upd u (noB 0))
  have U3 := Lib.hid (U2.out.then u)
  clear u U2 P2
  go_wp2_with fail
  refine (jwMid2 _).mono ?_
  rintro e w4 ⟨rfl, u⟩
  have P4 := Lib.hid (P3.out.upd u (noB 0))
  have U4 := Lib.hid (U3.out.then u)
  clear u U3 P3
  go_wp2_with fail
  refine (jwSides _).mono ?_
  rintro e w5 ⟨rfl, u⟩
  have P5 := Lib.hid (P4.out.upd u (noB 0))
  have U5 := Lib.hid (U4.out.then u)
  clear u U4 P4
  go_wp2_with fail
  obtain ⟨W6, hW6⟩ : ∃ W6, W6 = (w5.alloc (.cells #[.int .i64 3, .int .i64 0, .int .i64 5] 3)).alloc (.cells #[.int .i64 0, .int .i64 2, .int .i64 1, .int .i64 4] 60) := ⟨_, rfl⟩
  have u6 : Upd NoB w5 W6 := by rw [hW6]; exact ((Upd.refl _ _).alloc _).alloc _
  have HA := Lib.hid (jwApply w5 W6 P5.out hW6)
  rw [← hW6]
  (with_reducible refine HA.out.mono ?_)
  rintro e w7 ⟨v, rfl, iv, u7⟩
  have P7 := Lib.hid ((P5.out.upd u6 (noB 0)).upd u7 (noB 0))
  have U7 := Lib.hid ((U5.out.then u6).then u7)
  have IV := Lib.hid iv
  clear HA U5 P5 u6 u7 iv hW6
  obtain ⟨W8, hW8⟩ : ∃ W8, W8 = w7.alloc (.cells #[.int .i64 0, .int .i64 2, .int .i64 1, .int .i64 4] 60) := ⟨_, rfl⟩
  have u8 : Upd NoB w7 W8 := by rw [hW8]; exact (Upd.refl _ _).alloc _
  have HB := Lib.hid (jwUndo v w7 W8 P7.out IV.out hW8)
  have HW8 := Lib.hid hW8; clear hW8
  go_wp2_with fail
  rw [← HW8.out]
  (with_reducible refine HB.out.mono ?_)
  rintro e w9 ⟨v2, rfl, iv2, u9⟩
  have IV9 := Lib.hid ((IV.out.later u8).later u9)
  have IV2 := Lib.hid iv2
  have U9 := Lib.hid ((U7.out.then u8).then u9)
  clear HB U7 u8 u9 iv2 HW8 IV
  obtain ⟨W10, hW10⟩ : ∃ W10, W10 = w9.alloc (.cells #[.int .i64 (-5), .int .i64 0, .int .i64 3] 3) := ⟨_, rfl⟩
  have HC := Lib.hid (jwInts v (-5) 0 3 w9 W10 IV9.out hW10)
  have HW10 := Lib.hid hW10; clear hW10
  go_wp2_with fail
  rw [← HW10.out]
  (with_reducible refine HC.out.mono ?_)
  rintro e w11 ⟨rfl, u11⟩
  have IV11 := Lib.hid (IV2.out.later u11)
  have U11 := Lib.hid (U9.out.then u11)
  clear HC u11 HW10 U9 IV9 IV2
  obtain ⟨W12, hW12⟩ : ∃ W12, W12 = w11.alloc (.cells #[.int .i64 3, .int .i64 0, .int .i64 5] 3) := ⟨_, rfl⟩
  have HD := Lib.hid (jwInts v2 3 0 5 w11 W12 IV11.out hW12)
  have HW12 := Lib.hid hW12; clear hW12
  go_wp2_with fail
  rw [← HW12.out]
  (with_reducible refine HD.out.mono ?_)
  rintro e w13 ⟨rfl, u13⟩
  have U13 := Lib.hid (U11.out.then u13)
  clear HD u13 HW12 U11
  go_wp2
  go_ret
  exact ⟨rfl, U13.out⟩
end Go.Proofs.YtpmhioaoniijbaaDoor
