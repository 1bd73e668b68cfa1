/- the chapter's examples hold -/
import Derived.Test.YtpmhioaoniijbaaDoorFZ
namespace Go.Proofs.YtpmhioaoniijbaaDoor
open Go.RowKit Go.Shelf

theorem awRoot (w : World) : Calls Tryd.prog 42 #[.int .i64 24] w fun e w' => e = .returned (.tuple #[.int .i64 (4), .int .i64 0]) ∧ Upd NoB w w' := by
  have h := Root_any 24 w
  rw [show onOk (rtE 24) ((rt (24 : Int).toNat : Nat) : Int) = 4 by decide +kernel, show rtE 24 = 0 by decide +kernel] at h
  exact h
theorem awCube (w : World) : Calls Tryd.prog 43 #[.int .i64 26] w fun e w' => e = .returned (.tuple #[.int .i64 (2), .int .i64 0]) ∧ Upd NoB w w' := by
  have h := Cube_any 26 w
  rw [show onOk (rtE 26) ((cb (26 : Int).toNat : Nat) : Int) = 2 by decide +kernel, show rtE 26 = 0 by decide +kernel] at h
  exact h
theorem awFloor (w : World) : Calls Tryd.prog 44 #[.int .i64 (-7), .int .i64 2] w fun e w' => e = .returned (.tuple #[.int .i64 (-4), .int .i64 0]) ∧ w' = w := by
  have h := Floor_any (-7) 2 w
  rw [show onOk (ratE (-7) 2) (-7 / 2) = -4 by decide +kernel, show ratE (-7) 2 = 0 by decide +kernel] at h
  exact h
theorem awRound (w : World) : Calls Tryd.prog 45 #[.int .i64 (-7), .int .i64 2] w fun e w' => e = .returned (.tuple #[.int .i64 (-3), .int .i64 0]) ∧ w' = w := by
  have h := Round_any (-7) 2 w
  rw [show onOk (ratE (-7) 2) (rnd (-7) 2) = -3 by decide +kernel, show ratE (-7) 2 = 0 by decide +kernel] at h
  exact h
theorem awSin (w : World) (hp : Parts w) : Calls Tryd.prog 11 #[.int .i64 1, .int .i64 8] w fun e w' => e = .returned (.tuple #[.int .i64 (11585), .int .i64 0]) ∧ Upd NoB w w' := by
  have h := Sin_any 1 8 w hp
  rw [show onOk (angE 1 8) (cir (1 * (16384 / 8))).2 = 11585 by decide +kernel, show angE 1 8 = 0 by decide +kernel] at h
  exact h
theorem awHalf (w : World) (hp : Parts w) : Calls Tryd.prog 15 #[.int .i64 1, .int .i64 8] w fun e w' => e = .returned (.tuple #[.int .i64 (6786), .int .i64 0]) ∧ Upd NoB w w' := by
  have h := Half_any 1 8 w hp
  rw [show onOk (hlfE 1 8) (hlfV 1 8) = 6786 by decide +kernel, show hlfE 1 8 = 0 by decide +kernel] at h
  exact h
theorem awCos (w : World) (hp : Parts w) : Calls Tryd.prog 13 #[.int .i64 1, .int .i64 4] w fun e w' => e = .returned (.tuple #[.int .i64 (0), .int .i64 0]) ∧ Upd NoB w w' := by
  have h := Cos_any 1 4 w hp
  rw [show onOk (angE 1 4) (cir (1 * (16384 / 4))).1 = 0 by decide +kernel, show angE 1 4 = 0 by decide +kernel] at h
  exact h
theorem awLog (w : World) : Calls Tryd.prog 46 #[.int .i64 3] w fun e w' => e = .returned (.tuple #[.int .i64 (405), .int .i64 0]) ∧ Upd NoB w w' := by
  have h := Log_any 3 w
  rw [show onOk (lgE 3) ((logN (3 : Int).toNat : Nat) : Int) = 405 by decide +kernel, show lgE 3 = 0 by decide +kernel] at h
  exact h
theorem awExp (w : World) : Calls Tryd.prog 47 #[.int .i64 640] w fun e w' => e = .returned (.tuple #[.int .i64 (5), .int .i64 0]) ∧ Upd NoB w w' := by
  have h := Exp_any 640 w
  rw [show onOk (exE 640) ((expN (640 : Int).toNat : Nat) : Int) = 5 by decide +kernel, show exE 640 = 0 by decide +kernel] at h
  exact h
theorem awStep (w : World) : Calls Tryd.prog 48 #[.int .i64 5] w fun e w' => e = .returned (.tuple #[.int .i64 (38), .int .i64 0]) ∧ Upd NoB w w' := by
  have h := Step_any 5 w
  rw [show onOk (stE 5) ((stepN (5 : Int).toNat : Nat) : Int) = 38 by decide +kernel, show stE 5 = 0 by decide +kernel] at h
  exact h
theorem awClip (w : World) : Calls Tryd.prog 49 #[.int .i64 5, .int .i64 1, .int .i64 3] w fun e w' => e = .returned (.tuple #[.int .i64 (3), .int .i64 0]) ∧ w' = w := by
  have h := Clip_any 5 1 3 w
  rw [show clipV 5 1 3 = 3 by decide +kernel, show clipE 1 3 = 0 by decide +kernel] at h
  exact h

set_option maxRecDepth 100000 in
set_option maxHeartbeats 4000000 in
theorem awake_any (w : World) (hp : Parts w) : Calls Tryd.prog 17 #[] w fun e w' => e = .returned (.bool true) ∧ Upd NoB w w' := by
  have P0 := Lib.hid hp; clear hp
  have U0 := Lib.hid (Upd.refl NoB w)
  go_enter Tryd.func17, Tryd.ntmps17
  go_wp2_with fail
  refine (awRoot _).mono ?_
  rintro e w1 ⟨rfl, u⟩
  have P1 := Lib.hid (P0.out.upd u (noB 0))
  have U1 := Lib.hid (U0.out.then u)
  clear u U0 P0
  go_wp2_with fail
  refine (awCube _).mono ?_
  rintro e w2 ⟨rfl, u⟩
  have P2 := Lib.hid (P1.out.upd u (noB 0))
  have U2 := Lib.hid (U1.out.then u)
  clear u U1 P1
  go_wp2_with fail
  refine (awFloor _).mono ?_
  rintro e w' ⟨rfl, rfl⟩
  go_wp2_with fail
  refine (awRound _).mono ?_
  rintro e w' ⟨rfl, rfl⟩
  go_wp2_with fail
  refine (awSin _ P2.out).mono ?_
  rintro e w3 ⟨rfl, u⟩
  have P3 := Lib.hid (P2.out.upd u (noB 0))
  have U3 := Lib.hid (U2.out.then u)
  clear u U2 P2
  go_wp2_with fail
  refine (awHalf _ P3.out).mono ?_
  rintro e w4 ⟨rfl, u⟩
  have P4 := Lib.hid (P3.out.upd u (noB 0))
  have U4 := Lib.hid (U3.out.then u)
  clear u U3 P3
  go_wp2_with fail
  refine (awCos _ P4.out).mono ?_
  rintro e w5 ⟨rfl, u⟩
  have P5 := Lib.hid (P4.out.upd u (noB 0))
  have U5 := Lib.hid (U4.out.then u)
  clear u U4 P4
  go_wp2_with fail
  refine (awLog _).mono ?_
  rintro e w6 ⟨rfl, u⟩
  have P6 := Lib.hid (P5.out.upd u (noB 0))
  have U6 := Lib.hid (U5.out.then u)
  clear u U5 P5
  go_wp2_with fail
  refine (awExp _).mono ?_
  rintro e w7 ⟨rfl, u⟩
  have P7 := Lib.hid (P6.out.upd u (noB 0))
  have U7 := Lib.hid (U6.out.then u)
  clear u U6 P6
  go_wp2_with fail
  refine (awStep _).mono ?_
  rintro e w8 ⟨rfl, u⟩
  have P8 := Lib.hid (P7.out.upd u (noB 0))
  have U8 := Lib.hid (U7.out.then u)
  clear u U7 P7
  go_wp2_with fail
  refine (awClip _).mono ?_
  rintro e w' ⟨rfl, rfl⟩
  go_wp2
  go_ret
  exact ⟨rfl, U8.out⟩
end Go.Proofs.YtpmhioaoniijbaaDoor
