/- quant: a ladder's quantum -/
import Derived.Test.YteioaeceobgbdaaQD
import Derived.Deep.RegionHeldLaw
namespace Go.Proofs.Yteioaeceobgbdaa
open Go.RowKit Go.Shelf

/-- the quantum of a coefficient from 0 on -/
def qtN (s : Nat) (c : Int) : Nat := if 0 < fsN s c ∧ c - vlN s (fsN s c - 1) ≤ vlN s (fsN s c) - c then fsN s c - 1 else fsN s c
set_option maxRecDepth 100000 in
set_option maxHeartbeats 4000000 in
theorem quantum_any (sc : Int) (s b : Nat) (c : Int) (w : World) (h : Memo w b) (hs : s ≤ 95) (hc : 0 ≤ c ∧ c ≤ 2097152) : Calls Try.prog 50 #[.agg #[.int .i64 sc, .int .i64 (stepN s : Nat), .pointer (some ⟨b, 0, none⟩)], .int .i64 c] w fun e w' => e = .returned (.int .i64 (qtN s c : Nat)) ∧ Memo w' b ∧ Upd (fun k => k = b) w w' := by
  have HQ := Lib.hid (show qtN s c = if 0 < fsN s c ∧ c - vlN s (fsN s c - 1) ≤ vlN s (fsN s c) - c then fsN s c - 1 else fsN s c from rfl)
  have hF := fsN_le s c
  obtain ⟨c0, c1, hu⟩ := boxes2 w (.cells #[.int .i64 sc, .int .i64 (stepN s : Nat), .pointer (some ⟨b, 0, none⟩)] 57) (.cells #[.int .i64 c] 3)
  have hb := h.lt
  have n1 : w.heap.size ≠ b := by omega
  have n2 : w.heap.size + 1 ≠ b := by omega
  have hM := h.later hu
  have HL := Lib.hid (least_any sc s b w.heap.size (w.heap.size + 1) c _ hM hs c0 (blk_cell c1 0) n1 n2)
  have HV := Lib.hid (fun (q : Nat) (hq : q ≤ 1023) W (h : Memo W b) => value_any sc s b q W h hs hq)
  have HI := Lib.hid (fun (q : Nat) (hq : q ≤ 1023) => vlN_in hs hq)
  obtain ⟨⟨d0, d1, d2⟩, _, _, _⟩ := cells3 c0
  have d3 := blk_cell c1 0
  have HS := Lib.hid (fun (Z : World) (u : Upd (fun k => k = b) ((w.alloc (.cells #[.int .i64 sc, .int .i64 (stepN s : Nat), .pointer (some ⟨b, 0, none⟩)] 57)).alloc (.cells #[.int .i64 c] 3)) Z) => And.intro (u.cell d0 n1) (And.intro (u.cell d1 n1) (And.intro (u.cell d2 n1) (u.cell d3 n2))))
  generalize qtN s c = R at *
  generalize stepN s = t at *
  generalize fsN s c = f at *
  have HU := Lib.hid hu
  obtain ⟨B, hB⟩ : ∃ B, w.heap.size = B := ⟨_, rfl⟩
  have HB := Lib.hid hB
  rw [hB] at HL HS
  clear h hs c0 c1 hu hM d0 d1 d2 d3 hB n1 n2 hb
  go_enter Try.func50, Try.ntmps50
  go_wp2_with fail
  rw [HB.out]
  refine HL.out.mono ?_
  rintro e w2 ⟨rfl, M2, u2⟩
  have HS2 := Lib.hid (fun Z (u : Upd (fun k => k = b) w2 Z) => HS.out Z (u2.trans u (fun _ _ h => h)))
  have U2 := Lib.hid ((HU.out.mono (T := fun k => k = b) (fun _ _ h => h.elim)).trans u2 (fun _ _ h => h))
  clear u2 HS HL HU
  have ud : Upd (fun k => k = b) w2 w2.drew := (Upd.refl _ _).drew
  obtain ⟨e0, e1, e2, e3⟩ := HS2.out _ ud
  have UD := Lib.hid ud
  have MD := Lib.hid (show Memo w2.drew b from M2.later (Upd.refl NoB w2).drew)
  have M2 := Lib.hid M2
  clear ud
  by_cases hf : 0 < f
  · obtain ⟨g, hg⟩ : ∃ g, f - 1 = g := ⟨_, rfl⟩
    rw [hg] at HQ
    have HV1 := Lib.hid (fun W h => HV.out g (by omega) W h)
    have HV2 := Lib.hid (fun W h => HV.out f hF W h)
    obtain ⟨a0, a1⟩ := HI.out g (by omega)
    obtain ⟨b0, b1⟩ := HI.out f hF
    generalize vlN s g = x at *
    generalize vlN s f = y at *
    have q0 : (f : Int) - 1 = (g : Int) := by omega
    have t1 : decide (0 < f) = true := decide_eq_true hf
    have t2 : decide ((0 : Int) < (f : Int)) = true := decide_eq_true (by omega)
    have z1 : wrap64 ((f : Int) - 1) = (g : Int) := by rw [q0]; exact IntWalk.wrap64_in _ (by omega)
    have z2 : IntKind.i64.wrap ((f : Int) - 1) = (g : Int) := by rw [q0]; exact IntWalk.i64_in _ (by clear z1; omega)
    have z3 : wrap64 (c - x) = c - x := IntWalk.wrap64_in _ (by clear z1 z2; omega)
    have z4 : IntKind.i64.wrap (c - x) = c - x := IntWalk.i64_in _ (by clear z1 z2 z3; omega)
    have z5 : wrap64 (y - c) = y - c := IntWalk.wrap64_in _ (by clear z1 z2 z3 z4; omega)
    have z6 : IntKind.i64.wrap (y - c) = y - c := IntWalk.i64_in _ (by clear z1 z2 z3 z4 z5; omega)
    by_cases hd : c - x ≤ y - c
    · have t3 : decide (c - x ≤ y - c) = true := decide_eq_true hd
      have HR := Lib.hid (HQ.out.trans (if_pos ⟨hf, hd⟩))
      clear HQ HV HI a0 a1 b0 b1 q0 hd hf hF hc hg
      go_wp2_with fail
      go_region_held_law (fun Z => Z.cell? ⟨B, 0, none⟩ = some (.int .i64 sc) ∧ Z.cell? ⟨B, 1, none⟩ = some (.int .i64 (t : Nat)) ∧ Z.cell? ⟨B, 2, none⟩ = some (.pointer (some ⟨b, 0, none⟩)) ∧ Z.cell? ⟨B + 1, 0, none⟩ = some (.int .i64 c)) (first | exact ⟨e0, e1, e2, e3⟩ | exact HS2.out _ U4.out | exact HS2.out _ U3.out) (first
        | (go_at_call 47; (with_reducible refine (HV1.out _ MD.out).mono ?_); rintro e w3 ⟨rfl, M3, u3⟩; have U3 := Lib.hid (UD.out.trans u3 (fun _ _ h => h)); have M3' := Lib.hid M3; clear M3 u3)
        | (go_at_call 47; (with_reducible refine (HV2.out _ M3'.out).mono ?_); rintro e w4 ⟨rfl, M4, u4⟩; have U4 := Lib.hid (U3.out.trans u4 (fun _ _ h => h)); have M4 := Lib.hid M4; clear u4))
      all_goals
        go_wp2_with fail
        go_ret
        exact ⟨by rw [HR.out]; rfl, M4.out, U2.out.trans U4.out (fun _ _ h => h)⟩
    · have t3 : decide (c - x ≤ y - c) = false := decide_eq_false hd
      have HR := Lib.hid (HQ.out.trans (if_neg (fun h => hd h.2)))
      clear HQ HV HI a0 a1 b0 b1 q0 hd hf hF hc hg
      go_wp2_with fail
      go_region_held_law (fun Z => Z.cell? ⟨B, 0, none⟩ = some (.int .i64 sc) ∧ Z.cell? ⟨B, 1, none⟩ = some (.int .i64 (t : Nat)) ∧ Z.cell? ⟨B, 2, none⟩ = some (.pointer (some ⟨b, 0, none⟩)) ∧ Z.cell? ⟨B + 1, 0, none⟩ = some (.int .i64 c)) (first | exact ⟨e0, e1, e2, e3⟩ | exact HS2.out _ U4.out | exact HS2.out _ U3.out) (first
        | (go_at_call 47; (with_reducible refine (HV1.out _ MD.out).mono ?_); rintro e w3 ⟨rfl, M3, u3⟩; have U3 := Lib.hid (UD.out.trans u3 (fun _ _ h => h)); have M3' := Lib.hid M3; clear M3 u3)
        | (go_at_call 47; (with_reducible refine (HV2.out _ M3'.out).mono ?_); rintro e w4 ⟨rfl, M4, u4⟩; have U4 := Lib.hid (U3.out.trans u4 (fun _ _ h => h)); have M4 := Lib.hid M4; clear u4))
      all_goals
        go_wp2_with fail
        go_ret
        exact ⟨by rw [HR.out]; rfl, M4.out, U2.out.trans U4.out (fun _ _ h => h)⟩
  · obtain rfl : f = 0 := by omega
    have HR := Lib.hid (HQ.out.trans (if_neg (fun h => absurd h.1 (Nat.lt_irrefl 0))))
    clear HQ HV HI hf hF hc
    go_wp2_with fail
    have t9 : decide ((0 : Int) < 0) = false := by decide
    go_quiet (fail)
    have UQ := Lib.hid (show Upd (fun k => k = b) w2 (w2.drewN nq) from upd_drewN (Upd.refl _ _) _)
    have MQ := Lib.hid (show Memo (w2.drewN nq) b from M2.out.later (upd_drewN (Upd.refl NoB w2) _))
    go_wp2_with fail
    go_ret
    exact ⟨by rw [HR.out]; rfl, MQ.out, U2.out.trans UQ.out (fun _ _ h => h)⟩
end Go.Proofs.Yteioaeceobgbdaa
