/- Half of the program -/
import Derived.Test.YtpmhioaoniijbaaDoorFY
namespace Go.Proofs.YtpmhioaoniijbaaDoor
open Go.RowKit Go.Shelf

def hlfE (n d : Int) : Int := if angE n d = 0 then (if 8 * n < -d ∨ d < 8 * n then 6 else 0) else angE n d
def hlfS (n d : Int) : Nat := n.natAbs * (16384 / d).toNat
def hlfV (n d : Int) : Int := if n < 0 then -((tanR (hlfS n d) : Nat) : Int) else ((tanR (hlfS n d) : Nat) : Int)
theorem hlf_cases (n d : Int) : (angE n d ≠ 0 ∧ hlfE n d = angE n d) ∨ (angE n d = 0 ∧ 8 * n < -d ∧ hlfE n d = 6) ∨ (angE n d = 0 ∧ ¬ 8 * n < -d ∧ d < 8 * n ∧ hlfE n d = 6) ∨ (angE n d = 0 ∧ ¬ 8 * n < -d ∧ ¬ d < 8 * n ∧ hlfE n d = 0) := by
  unfold hlfE
  by_cases h : angE n d = 0
  · rw [if_pos h]
    split <;> omega
  · rw [if_neg h]; exact .inl ⟨h, rfl⟩
theorem hlf_ok {n d : Int} (h1 : 1 ≤ d) (h2 : d ≤ 16384) (h3 : ¬ 8 * n < -d) (h4 : ¬ d < 8 * n) : hlfS n d ≤ 2048 := by
  unfold hlfS
  obtain ⟨m, rfl⟩ : ∃ m : Nat, d = m := ⟨d.toNat, by omega⟩
  have e : ((16384 : Int) / (m : Int)).toNat = 16384 / m := rfl
  rw [e]
  have a : 8 * n.natAbs ≤ m := by omega
  have b := Nat.mul_le_mul_right (16384 / m) a
  have c := Nat.mul_div_le 16384 m
  rw [Nat.mul_assoc] at b
  generalize n.natAbs * (16384 / m) = z at *
  omega
theorem hlf_abs {n d : Int} (h1 : 1 ≤ d) (a : Int) (ha : a = (n.natAbs : Int)) : a * (16384 / d) = (hlfS n d : Nat) := by
  unfold hlfS
  have : 0 ≤ (16384 : Int) / d := Int.ediv_nonneg (by omega) (by omega)
  rw [ha, Int.natCast_mul]
  congr 1
  omega
theorem tan_rnd (s : Nat) : rnd (16384 * (wst s 12).2 : Nat) (2147483648 + (wst s 12).1 : Nat) = (tanR s : Nat) := by
  unfold rnd tanR
  generalize (wst s 12).1 = x
  generalize (wst s 12).2 = y
  have e1 : (2 * ((16384 * y : Nat) : Int) + ((2147483648 + x : Nat) : Int)) = ((32768 * y + (2147483648 + x) : Nat) : Int) := by omega
  have e2 : (2 * ((2147483648 + x : Nat) : Int)) = ((2 * (2147483648 + x) : Nat) : Int) := by omega
  rw [e1, e2]; rfl
set_option maxRecDepth 100000 in
set_option maxHeartbeats 400000 in
theorem Half_any (n d : Int) (w : World) (hp : Parts w) : Calls Tryd.prog 15 #[.int .i64 n, .int .i64 d] w fun e w' => e = .returned (.tuple #[.int .i64 (onOk (hlfE n d) (hlfV n d)), .int .i64 (hlfE n d)]) ∧ Upd NoB w w' := by
  have HP := Lib.hid hp; clear hp
  rcases hlf_cases n d with ⟨h, e⟩ | ⟨h, h8, e⟩ | ⟨h, h8, h9, e⟩ | ⟨h, h8, h9, e⟩
  · have V := Lib.hid (show onOk (hlfE n d) (hlfV n d) = 0 by unfold onOk; rw [if_neg (by rw [e]; exact h)])
    have E := Lib.hid e
    have t : (angE n d != 0) = true := by simpa using h
    clear h e
    go_enter Tryd.func15, Tryd.ntmps15
    go_wp2_with fail
    refine (checkAngle_any n d _).mono ?_
    rintro e w' ⟨rfl, rfl⟩
    go_wp2
    go_ret2
    exact ⟨ret2_int V.out.symm E.out.symm, Upd.refl _ _⟩
  · have V := Lib.hid (show onOk (hlfE n d) (hlfV n d) = 0 by unfold onOk; rw [if_neg (by rw [e]; omega)])
    have E := Lib.hid e
    have g := angE_ok h
    have H := Lib.hid h
    clear h e
    go_enter Tryd.func15, Tryd.ntmps15
    go_wp2_with fail
    refine (checkAngle_any n d _).mono ?_
    rintro e w' ⟨rfl, rfl⟩
    rw [H.out]
    go_wp2
    go_ret2
    exact ⟨ret2_int V.out.symm E.out.symm, Upd.refl _ _⟩
  · have V := Lib.hid (show onOk (hlfE n d) (hlfV n d) = 0 by unfold onOk; rw [if_neg (by rw [e]; omega)])
    have E := Lib.hid e
    have g := angE_ok h
    have H := Lib.hid h
    clear h e
    go_enter Tryd.func15, Tryd.ntmps15
    go_wp2_with fail
    refine (checkAngle_any n d _).mono ?_
    rintro e w' ⟨rfl, rfl⟩
    rw [H.out]
    go_wp2
    go_ret2
    exact ⟨ret2_int V.out.symm E.out.symm, Upd.refl _ _⟩
  · have V := Lib.hid (show onOk (hlfE n d) (hlfV n d) = hlfV n d by unfold onOk; rw [if_pos e])
    have E := Lib.hid e
    have g := angE_ok h
    have H := Lib.hid h
    have hs := hlf_ok g.1 g.2.1 h8 h9
    have ha := fun a => hlf_abs (n := n) g.1 a
    have hV : hlfV n d = if n < 0 then -((tanR (hlfS n d) : Nat) : Int) else ((tanR (hlfS n d) : Nat) : Int) := rfl
    have nz : d ≠ 0 := by omega
    have dv := div_in g.1 g.2.1
    obtain ⟨q, hq⟩ : ∃ q, 16384 / d = q := ⟨_, rfl⟩
    rw [hq] at ha dv
    obtain ⟨S, hS⟩ : ∃ S, hlfS n d = S := ⟨_, rfl⟩
    rw [hS] at hs hV ha
    have rn := tan_rnd S
    have wl := wst_le (q := S) (by omega) 12 (by omega)
    obtain ⟨X, eX⟩ : ∃ X, (wst S 12).1 = X := ⟨_, rfl⟩
    obtain ⟨Y, eY⟩ : ∃ Y, (wst S 12).2 = Y := ⟨_, rfl⟩
    obtain ⟨T, eT⟩ : ∃ T, tanR S = T := ⟨_, rfl⟩
    rw [eX, eY, eT] at rn
    rw [eX, eY] at wl
    rw [eT] at hV
    have hT : (T : Int) ≤ 1152921504606846976 := by
      rw [← rn]; unfold rnd
      refine Int.le_trans (Int.ediv_le_self _ (by omega)) (by omega)
    have i1 : ((16384 * Y : Nat) : Int) = 16384 * (Y : Int) := by simp
    have i2 : ((2147483648 + X : Nat) : Int) = 2147483648 + (X : Int) := by simp
    rw [i1, i2] at rn
    clear i1 i2
    have Rn := Lib.hid rn; have HV := Lib.hid hV; have EX := Lib.hid eX; have EY := Lib.hid eY; have Hs := Lib.hid (show S < 4096 by omega)
    have m1 : 0 ≤ n → n * q = (S : Int) := fun h => ha n (by omega)
    have m2 : n < 0 → -n * q = (S : Int) := fun h => ha (-n) (by omega)
    have M1 := Lib.hid m1; have M2 := Lib.hid m2
    clear rn hV eX eY eT hS ha m1 m2 h e
    have wn : IntKind.i64.wrap (-n) = -n := IntWalk.i64_in _ (by omega)
    have wd : IntKind.i64.wrap (-d) = -d := IntWalk.i64_in _ (by omega)
    have w8 : IntKind.i64.wrap (8 * n) = 8 * n := IntWalk.i64_in _ (by omega)
    have t1 : decide (8 * n < -d) = false := decide_eq_false h8
    have t2 : decide (d < 8 * n) = false := decide_eq_false h9
    have WL := Lib.hid wl; have HT := Lib.hid hT; have HS2 := Lib.hid hs; have DV := Lib.hid dv; have H8 := Lib.hid h8; have H9 := Lib.hid h9
    clear wl hT hs dv h8 h9
    by_cases hn : n < 0
    · have e1 : -n * q = (S : Int) := M2.out hn
      have w1 : IntKind.i64.wrap (-n * q) = (S : Int) := by rw [e1]; exact IntWalk.i64_in _ (by have := HS2.out; omega)
      clear e1
      go_enter Tryd.func15, Tryd.ntmps15
      go_wp2_with fail
      refine (checkAngle_any n d _).mono ?_
      rintro e w' ⟨rfl, rfl⟩
      rw [H.out]
      go_wp2_with fail
      refine (within_any S _ Hs.out HP.out).mono ?_
      rintro e w2 ⟨rfl, u⟩
      rw [EX.out, EY.out]
      obtain ⟨W, hW⟩ : ∃ W, W = w2.alloc (.cells #[.int .i64 X, .int .i64 Y] 46) := ⟨_, rfl⟩
      have b0 : W.heap[w2.heap.size]? = some (.cells #[.int .i64 X, .int .i64 Y] 46 (0, 0)) := by rw [hW]; exact heap_alloc_new w2 _
      have d0 := cell_of_block0 b0
      have d1 := cell_of_block1 b0
      have U := Lib.hid (show Upd NoB w' W by rw [hW]; exact u.alloc _)
      rw [hW] at d0 d1
      have HW := Lib.hid hW; clear u b0 hW
      have wl := WL.out
      have hT := HT.out
      clear t1 t2 w8 wd w1
      go_wp2_with fail
      (with_reducible refine (round_any (16384 * (Y : Int)) (2147483648 + (X : Int)) _ (by omega) (by omega) (by omega) (by omega)).mono ?_)
      rintro e w3 ⟨rfl, rfl⟩
      rw [Rn.out]
      go_wp2
      go_ret2
      rw [← HW.out]
      exact ⟨ret2_int (by rw [V.out, HV.out]; first | rw [if_pos hn] | rw [if_neg hn] | (rw [if_neg (by omega)])) E.out.symm, U.out⟩
    · have e1 : n * q = (S : Int) := M1.out (by omega)
      have w1 : IntKind.i64.wrap (n * q) = (S : Int) := by rw [e1]; exact IntWalk.i64_in _ (by have := HS2.out; omega)
      clear e1
      go_enter Tryd.func15, Tryd.ntmps15
      go_wp2_with fail
      refine (checkAngle_any n d _).mono ?_
      rintro e w' ⟨rfl, rfl⟩
      rw [H.out]
      go_wp2_with fail
      refine (within_any S _ Hs.out HP.out).mono ?_
      rintro e w2 ⟨rfl, u⟩
      rw [EX.out, EY.out]
      obtain ⟨W, hW⟩ : ∃ W, W = w2.alloc (.cells #[.int .i64 X, .int .i64 Y] 46) := ⟨_, rfl⟩
      have b0 : W.heap[w2.heap.size]? = some (.cells #[.int .i64 X, .int .i64 Y] 46 (0, 0)) := by rw [hW]; exact heap_alloc_new w2 _
      have d0 := cell_of_block0 b0
      have d1 := cell_of_block1 b0
      have U := Lib.hid (show Upd NoB w' W by rw [hW]; exact u.alloc _)
      rw [hW] at d0 d1
      have HW := Lib.hid hW; clear u b0 hW
      have wl := WL.out
      have hT := HT.out
      clear t1 t2 w8 wd w1
      go_wp2_with fail
      (with_reducible refine (round_any (16384 * (Y : Int)) (2147483648 + (X : Int)) _ (by omega) (by omega) (by omega) (by omega)).mono ?_)
      rintro e w3 ⟨rfl, rfl⟩
      rw [Rn.out]
      go_wp2
      go_ret2
      rw [← HW.out]
      exact ⟨ret2_int (by rw [V.out, HV.out]; first | rw [if_pos hn] | rw [if_neg hn] | (rw [if_neg (by omega)])) E.out.symm, U.out⟩
end Go.Proofs.YtpmhioaoniijbaaDoor
