/- quant: ladders: with, ladderOf, value -/
import Derived.Test.YteioaeceobgbdaaQA
namespace Go.Proofs.Yteioaeceobgbdaa
open Go.RowKit Go.Shelf

theorem cells3 {w : World} {b : Nat} {x y z : Value} {t : TypeId} (h : w.heap[b]? = some (.cells #[x, y, z] t (0, 0))) : (w.cell? ⟨b, 0, none⟩ = some x ∧ w.cell? ⟨b, 1, none⟩ = some y ∧ w.cell? ⟨b, 2, none⟩ = some z) ∧ w.frozen? ⟨b, 0, none⟩ = false ∧ w.frozen? ⟨b, 1, none⟩ = false ∧ w.frozen? ⟨b, 2, none⟩ = false :=
  ⟨⟨blk_cell h 0, blk_cell h 1, blk_cell h 2⟩, blk_free h 0, blk_free h 1, blk_free h 2⟩
set_option maxRecDepth 100000 in
set_option maxHeartbeats 2000000 in
theorem value_any (sc : Int) (s b q : Nat) (w : World) (h : Memo w b) (hs : s ≤ 95) (hq : q ≤ 1023) : Calls Try.prog 47 #[.agg #[.int .i64 sc, .int .i64 (stepN s : Nat), .pointer (some ⟨b, 0, none⟩)], .int .i64 (q : Int)] w fun e w' => e = .returned (.int .i64 (vlN s q)) ∧ Memo w' b ∧ Upd (fun k => k = b) w w' := by
  obtain ⟨p0, p1⟩ := ps_bd hs hq
  have hE := ratE_zero p0 p1
  have HR := Lib.hid (fun W => Round_any ((pwN q : Int) * (stepN s : Int)) 256 W)
  rw [hE] at HR
  have HV := Lib.hid (show vlN s q = min (rnd ((pwN q : Int) * (stepN s : Int)) 256) 2097152 from rfl)
  have HO := Lib.hid (fun W (h : Memo W b) => of_any b q W h hq)
  have hb := h.lt
  rw [HV.out]
  obtain ⟨p, hp⟩ : ∃ p, pwN q = p := ⟨_, rfl⟩
  obtain ⟨t, ht⟩ : ∃ t, stepN s = t := ⟨_, rfl⟩
  rw [hp, ht] at p0 p1 HR ⊢
  rw [hp] at HO
  obtain ⟨m, hm⟩ : ∃ m, (p : Int) * (t : Int) = m := ⟨_, rfl⟩
  rw [hm] at HR p0 p1 ⊢
  have z1 : wrap64 ((p : Int) * (t : Int)) = m := by rw [hm]; exact IntWalk.wrap64_in _ (by omega)
  have z2 : IntKind.i64.wrap ((p : Int) * (t : Int)) = m := by rw [hm]; exact IntWalk.i64_in _ (by clear z1; omega)
  have HR2 := Lib.hid (fun W => (show Calls Try.prog 92 #[.int .i64 m, .int .i64 256] W fun e w' => e = .returned (.tuple #[.int .i64 (rnd m 256), .int .i64 0]) ∧ w' = W from HR.out W))
  generalize rnd m 256 = r at *
  obtain ⟨⟨d0, d1, d2⟩, _, _, _⟩ := cells3 (heap_alloc_new w (.cells #[.int .i64 sc, .int .i64 (t : Nat), .pointer (some ⟨b, 0, none⟩)] 57))
  have ub : Upd NoB w (w.alloc (.cells #[.int .i64 sc, .int .i64 (t : Nat), .pointer (some ⟨b, 0, none⟩)] 57)) := (Upd.refl _ _).alloc _
  have HM := Lib.hid (h.later ub)
  have hne : w.heap.size ≠ b := by clear z1 z2; omega
  have UB := Lib.hid ub
  clear p0 p1 hE HR HV hp ht hm h hb hs hq ub
  go_enter Try.func47, Try.ntmps47
  have e1 : (w.alloc (.cells #[.int .i64 sc, .int .i64 (t : Nat), .pointer (some ⟨b, 0, none⟩)] 57)).drew.cell? ⟨w.heap.size, 1, none⟩ = some (.int .i64 (t : Nat)) := d1
  have e2 : (w.alloc (.cells #[.int .i64 sc, .int .i64 (t : Nat), .pointer (some ⟨b, 0, none⟩)] 57)).drew.cell? ⟨w.heap.size, 2, none⟩ = some (.pointer (some ⟨b, 0, none⟩)) := d2
  have HM1 := Lib.hid (show Memo (w.alloc (.cells #[.int .i64 sc, .int .i64 (t : Nat), .pointer (some ⟨b, 0, none⟩)] 57)).drew b from HM.out.later (Upd.refl NoB (w.alloc (.cells #[.int .i64 sc, .int .i64 (t : Nat), .pointer (some ⟨b, 0, none⟩)] 57))).drew)
  go_wp2_with fail
  go_region_with (first
    | (go_at_call 93; (with_reducible refine (HO.out _ HM1.out).mono ?_); rintro e w2 ⟨rfl, M2, u2⟩; have U2 := Lib.hid ((Upd.refl NoB (w.alloc (.cells #[.int .i64 sc, .int .i64 (t : Nat), .pointer (some ⟨b, 0, none⟩)] 57))).drew.mono (T := fun k => k = b) (fun _ _ h => h.elim) |>.trans u2 (fun _ _ h => h)); have c1 := u2.cell e1 hne; have M2' := Lib.hid M2; clear u2 M2)
    | (go_at_call 92; (with_reducible refine (HR2.out _).mono ?_); rintro e w3 ⟨rfl, hw3⟩; rw [hw3]; clear hw3 w3))
  all_goals
    go_wp2_with fail
    go_ret
    refine ⟨by first | rfl | (rw [Int.min_comm]; rfl), M2'.out, UB.out.mono (T := fun k => k = b) (fun _ _ h => h.elim) |>.trans U2.out (fun _ _ h => h)⟩
end Go.Proofs.Yteioaeceobgbdaa
