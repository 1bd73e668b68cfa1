/- Log, Exp, Step, Root and Cube never fall; Log of 2^e is 256 e, Exp of 256 e is 2^e, and Log of 2 n is 256 more than that of n up to 2^30; for any numbers. No condition; the variable parts holds what the program's text lays (tied). -/
import Derived.Test.YthkekpfifgbmiaaDoorFrow
namespace Go.Proofs.YthkekpfifgbmiaaDoor
open Go.ChangeShapes Go.WideShapes Go.ChangeAt Go.WideMaps Go.WideElems Go.RowKit

/-- two results of one function, in their order -/
def Ord3 (en em vn vm : Int) : Prop := ((en == 0) = true ∧ (em == 0) = true ∧ decide (vm < vn) = false) ∨ (en == 0) = false ∨ ((en == 0) = true ∧ (em == 0) = false)
theorem ord3_of {en em vn vm : Int} (h : en = 0 → em = 0 → vn ≤ vm) : Ord3 en em vn vm := by
  by_cases h1 : en = 0
  · by_cases h2 : em = 0
    · exact .inl ⟨by simpa using h1, by simpa using h2, decide_eq_false (by have := h h1 h2; omega)⟩
    · exact .inr (.inr ⟨by simpa using h1, by simpa using h2⟩)
  · exact .inr (.inl (by simpa using h1))
def Res1 (f : Nat) (n v e : Int) : Prop := ∀ w, Calls Tryd.prog f #[.int .i64 n] w fun r w' => r = .returned (.tuple #[.int .i64 v, .int .i64 e]) ∧ Upd NoB w w'
theorem ord_Log {n m : Int} (h : n ≤ m) : Ord3 (lgE n) (lgE m) (onOk (lgE n) (logN n.toNat : Nat)) (onOk (lgE m) (logN m.toNat : Nat)) := ord3_of fun h1 h2 => by
  have a := lgE_cases n
  have b := lgE_cases m
  have c : logN n.toNat ≤ logN m.toNat := logN_mono (by omega) (by omega)
  rw [h1, h2]
  show (((logN n.toNat : Nat) : Int)) ≤ ((logN m.toNat : Nat) : Int)
  omega
theorem ord_Exp {n m : Int} (h : n ≤ m) : Ord3 (exE n) (exE m) (onOk (exE n) (expN n.toNat : Nat)) (onOk (exE m) (expN m.toNat : Nat)) := ord3_of fun h1 h2 => by
  have a := exE_cases n
  have b := exE_cases m
  have c : expN n.toNat ≤ expN m.toNat := expN_mono (by omega)
  rw [h1, h2]
  show (((expN n.toNat : Nat) : Int)) ≤ ((expN m.toNat : Nat) : Int)
  omega
theorem ord_Step {n m : Int} (h : n ≤ m) : Ord3 (stE n) (stE m) (onOk (stE n) (stepN n.toNat : Nat)) (onOk (stE m) (stepN m.toNat : Nat)) := ord3_of fun h1 h2 => by
  have a := stE_cases n
  have b := stE_cases m
  have c : stepN n.toNat ≤ stepN m.toNat := stepN_mono (by omega) (by omega)
  rw [h1, h2]
  show (((stepN n.toNat : Nat) : Int)) ≤ ((stepN m.toNat : Nat) : Int)
  omega
theorem ord_Root {n m : Int} (h : n ≤ m) : Ord3 (rtE n) (rtE m) (onOk (rtE n) (rt n.toNat : Nat)) (onOk (rtE m) (rt m.toNat : Nat)) := ord3_of fun h1 h2 => by
  have a := rtE_cases n
  have b := rtE_cases m
  have c : rt n.toNat ≤ rt m.toNat := rt_mono (by omega) (by omega)
  rw [h1, h2]
  show (((rt n.toNat : Nat) : Int)) ≤ ((rt m.toNat : Nat) : Int)
  omega
theorem ord_Cube {n m : Int} (h : n ≤ m) : Ord3 (rtE n) (rtE m) (onOk (rtE n) (cb n.toNat : Nat)) (onOk (rtE m) (cb m.toNat : Nat)) := ord3_of fun h1 h2 => by
  have a := rtE_cases n
  have b := rtE_cases m
  have c : cb n.toNat ≤ cb m.toNat := cb_mono (by omega) (by omega)
  rw [h1, h2]
  show (((cb n.toNat : Nat) : Int)) ≤ ((cb m.toNat : Nat) : Int)
  omega
theorem two_Log {n m : Int} (h : n ≤ m) : ∃ vn en vm em : Int, Res1 28 n vn en ∧ Res1 28 m vm em ∧ Ord3 en em vn vm := ⟨_, _, _, _, fun w => Log_any n w, fun w => Log_any m w, ord_Log h⟩
theorem two_Exp {n m : Int} (h : n ≤ m) : ∃ vn en vm em : Int, Res1 30 n vn en ∧ Res1 30 m vm em ∧ Ord3 en em vn vm := ⟨_, _, _, _, fun w => Exp_any n w, fun w => Exp_any m w, ord_Exp h⟩
theorem two_Step {n m : Int} (h : n ≤ m) : ∃ vn en vm em : Int, Res1 32 n vn en ∧ Res1 32 m vm em ∧ Ord3 en em vn vm := ⟨_, _, _, _, fun w => Step_any n w, fun w => Step_any m w, ord_Step h⟩
theorem two_Root {n m : Int} (h : n ≤ m) : ∃ vn en vm em : Int, Res1 18 n vn en ∧ Res1 18 m vm em ∧ Ord3 en em vn vm := ⟨_, _, _, _, fun w => Root_any n w, fun w => Root_any m w, ord_Root h⟩
theorem two_Cube {n m : Int} (h : n ≤ m) : ∃ vn en vm em : Int, Res1 20 n vn en ∧ Res1 20 m vm em ∧ Ord3 en em vn vm := ⟨_, _, _, _, fun w => Cube_any n w, fun w => Cube_any m w, ord_Cube h⟩
theorem logS (e : Nat) (he : e ≤ 61) : Res1 28 (2 ^ e : Nat) (256 * e : Nat) 0 := fun w => by
  have h := Log_any ((2 ^ e : Nat) : Int) w
  have a := Nat.two_pow_pos e
  have b := Nat.pow_le_pow_right (show 0 < 2 by omega) he
  have c := lgE_cases ((2 ^ e : Nat) : Int)
  have d : lgE ((2 ^ e : Nat) : Int) = 0 := by omega
  rw [d, Int.toNat_natCast, logN_pow] at h
  exact h
theorem expS (e : Nat) (he : e ≤ 61) : Res1 30 (256 * e : Nat) (2 ^ e : Nat) 0 := fun w => by
  have h := Exp_any ((256 * e : Nat) : Int) w
  have c := exE_cases ((256 * e : Nat) : Int)
  have d : exE ((256 * e : Nat) : Int) = 0 := by omega
  rw [d, Int.toNat_natCast, expN_pow] at h
  exact h
theorem log_two {n : Int} (h1 : 1 ≤ n) (h2 : n ≤ 1073741824) : ∃ u : Int, Res1 28 n u 0 ∧ Res1 28 (2 * n) (u + 256) 0 ∧ 0 ≤ u ∧ u ≤ 20000 := by
  obtain ⟨N, rfl⟩ : ∃ N : Nat, n = N := ⟨n.toNat, by omega⟩
  have c := lgE_cases (N : Int)
  have c2 := lgE_cases (2 * (N : Int))
  have l := logN_lt (n := N) (by omega) (by omega)
  have t := logN_two (n := N) (by omega) (by omega)
  refine ⟨(logN N : Nat), fun w => ?_, fun w => ?_, by omega, by omega⟩
  · have h := Log_any (N : Int) w
    rw [show lgE (N : Int) = 0 by omega, Int.toNat_natCast] at h
    exact h
  · have h := Log_any (2 * (N : Int)) w
    rw [show lgE (2 * (N : Int)) = 0 by omega, show (2 * (N : Int)).toNat = 2 * N by omega, t] at h
    exact h
set_option maxRecDepth 100000 in
set_option maxHeartbeats 8000000 in
theorem rising_any (a b : Int) (x : Int) (w : World) (hx : 0 ≤ x ∧ x ≤ 255) (hp : Parts w) : Calls Tryd.prog 9 #[.int .i64 a, .int .i64 b, .int .u8 x] w fun e w' => e = .returned (.bool true) ∧ Upd NoB w w' := by
  have P0 := Lib.hid hp; clear hp
  obtain ⟨X, rfl⟩ : ∃ X : Nat, x = X := ⟨x.toNat, by omega⟩
  obtain ⟨e0, he0⟩ : ∃ e0, X % 62 = e0 := ⟨_, rfl⟩
  have he1 : e0 ≤ 61 := by omega
  have r1 : (X : Int) % 62 = (e0 : Int) := by omega
  have xw : IntKind.i64.wrap (X : Int) = (X : Int) := IntWalk.i64_in _ (by omega)
  have ls := logS e0 he1
  have es := expS e0 he1
  have p1 := Nat.pow_le_pow_right (show 0 < 2 by omega) he1
  have i1 : ((256 * e0 : Nat) : Int) = 256 * (e0 : Int) := by simp
  rw [i1] at ls es
  obtain ⟨p, hp⟩ : ∃ p : Nat, 2 ^ e0 = p := ⟨_, rfl⟩
  rw [hp] at ls es p1
  have p2 : (p : Int) ≤ 2305843009213693952 := by omega
  have sh : wrap64 ((2 : Int) ^ e0) = (p : Int) := by rw [pw_nat, hp]; exact IntWalk.wrap64_in _ (by omega)
  have ne : ¬ (e0 : Int) < 0 := by omega
  have LS := Lib.hid ls; have ES := Lib.hid es
  clear ls es p1 i1 he0 hp p2
  rcases (show a < b ∨ a = b ∨ b < a by omega) with hab | hab | hab
  · have hab2 : ¬ b < a := by omega
    obtain ⟨vnLog, enLog, vmLog, emLog, rnLog, rmLog, oLog⟩ := two_Log (n := a) (m := b) (by omega)
    have OLog := Lib.hid oLog; have RNLog := Lib.hid rnLog; have RMLog := Lib.hid rmLog
    clear oLog rnLog rmLog
    obtain ⟨vnExp, enExp, vmExp, emExp, rnExp, rmExp, oExp⟩ := two_Exp (n := a) (m := b) (by omega)
    have OExp := Lib.hid oExp; have RNExp := Lib.hid rnExp; have RMExp := Lib.hid rmExp
    clear oExp rnExp rmExp
    obtain ⟨vnStep, enStep, vmStep, emStep, rnStep, rmStep, oStep⟩ := two_Step (n := a) (m := b) (by omega)
    have OStep := Lib.hid oStep; have RNStep := Lib.hid rnStep; have RMStep := Lib.hid rmStep
    clear oStep rnStep rmStep
    obtain ⟨vnRoot, enRoot, vmRoot, emRoot, rnRoot, rmRoot, oRoot⟩ := two_Root (n := a) (m := b) (by omega)
    have ORoot := Lib.hid oRoot; have RNRoot := Lib.hid rnRoot; have RMRoot := Lib.hid rmRoot
    clear oRoot rnRoot rmRoot
    obtain ⟨vnCube, enCube, vmCube, emCube, rnCube, rmCube, oCube⟩ := two_Cube (n := a) (m := b) (by omega)
    have OCube := Lib.hid oCube; have RNCube := Lib.hid rnCube; have RMCube := Lib.hid rmCube
    clear oCube rnCube rmCube
    go_enter Tryd.func9, Tryd.ntmps9
    go_wp2_with fail
    go_loopw [29] (fun kv wr => ∃ k : Nat, kv = .int .i64 k ∧ k ≤ 5 ∧ Upd NoB w wr) (fun kv _ => 5 - (intOf kv).toNat)
    case atStart => exact ⟨0, rfl, by omega, Upd.refl _ _⟩
    case round =>
      obtain ⟨k, rfl, hk, hu⟩ := hrel
      have HU := Lib.hid hu; clear hu
      rcases (show k = 0 ∨ k = 1 ∨ k = 2 ∨ k = 3 ∨ k = 4 ∨ k = 5 by omega) with rfl | rfl | rfl | rfl | rfl | rfl
      · rcases OLog.out with ⟨z1, z2, z3⟩ | z1 | ⟨z1, z2⟩
        all_goals
          go_wp2_with fail
          refine (RNLog.out _).mono ?_
          rintro e w1 ⟨rfl, u1⟩
          have U1 := Lib.hid (HU.out.then u1); clear u1
          go_wp2_with fail
          refine (RMLog.out _).mono ?_
          rintro e w2 ⟨rfl, u2⟩
          have U2 := Lib.hid (U1.out.then u2); clear u2
          go_wp2
          go_roundw
          case rel => exact ⟨1, rfl, by omega, U2.out⟩
          case measure => simp [intOf]
      · rcases OExp.out with ⟨z1, z2, z3⟩ | z1 | ⟨z1, z2⟩
        all_goals
          go_wp2_with fail
          refine (RNExp.out _).mono ?_
          rintro e w1 ⟨rfl, u1⟩
          have U1 := Lib.hid (HU.out.then u1); clear u1
          go_wp2_with fail
          refine (RMExp.out _).mono ?_
          rintro e w2 ⟨rfl, u2⟩
          have U2 := Lib.hid (U1.out.then u2); clear u2
          go_wp2
          go_roundw
          case rel => exact ⟨2, rfl, by omega, U2.out⟩
          case measure => simp [intOf]
      · rcases OStep.out with ⟨z1, z2, z3⟩ | z1 | ⟨z1, z2⟩
        all_goals
          go_wp2_with fail
          refine (RNStep.out _).mono ?_
          rintro e w1 ⟨rfl, u1⟩
          have U1 := Lib.hid (HU.out.then u1); clear u1
          go_wp2_with fail
          refine (RMStep.out _).mono ?_
          rintro e w2 ⟨rfl, u2⟩
          have U2 := Lib.hid (U1.out.then u2); clear u2
          go_wp2
          go_roundw
          case rel => exact ⟨3, rfl, by omega, U2.out⟩
          case measure => simp [intOf]
      · rcases ORoot.out with ⟨z1, z2, z3⟩ | z1 | ⟨z1, z2⟩
        all_goals
          go_wp2_with fail
          refine (RNRoot.out _).mono ?_
          rintro e w1 ⟨rfl, u1⟩
          have U1 := Lib.hid (HU.out.then u1); clear u1
          go_wp2_with fail
          refine (RMRoot.out _).mono ?_
          rintro e w2 ⟨rfl, u2⟩
          have U2 := Lib.hid (U1.out.then u2); clear u2
          go_wp2
          go_roundw
          case rel => exact ⟨4, rfl, by omega, U2.out⟩
          case measure => simp [intOf]
      · rcases OCube.out with ⟨z1, z2, z3⟩ | z1 | ⟨z1, z2⟩
        all_goals
          go_wp2_with fail
          refine (RNCube.out _).mono ?_
          rintro e w1 ⟨rfl, u1⟩
          have U1 := Lib.hid (HU.out.then u1); clear u1
          go_wp2_with fail
          refine (RMCube.out _).mono ?_
          rintro e w2 ⟨rfl, u2⟩
          have U2 := Lib.hid (U1.out.then u2); clear u2
          go_wp2
          go_roundw
          case rel => exact ⟨5, rfl, by omega, U2.out⟩
          case measure => simp [intOf]
      · have P1 := Lib.hid (P0.out.upd HU.out (noB 0))
        go_wp2_with fail
        refine (LS.out _).mono ?_
        rintro e w1 ⟨rfl, u1⟩
        have P2 := Lib.hid (P1.out.upd u1 (noB 0)); have U1 := Lib.hid (HU.out.then u1); clear u1
        go_wp2_with fail
        refine (ES.out _).mono ?_
        rintro e w2 ⟨rfl, u2⟩
        have P3 := Lib.hid (P2.out.upd u2 (noB 0)); have U2 := Lib.hid (U1.out.then u2); clear u2
        by_cases c1 : 1 ≤ a
        · by_cases c2 : a ≤ 1073741824
          · obtain ⟨u, l1, l2, u0, u9⟩ := log_two c1 c2
            have L1 := Lib.hid l1; have L2 := Lib.hid l2; clear l1 l2
            go_wp2_with fail
            refine (L1.out _).mono ?_
            rintro e w3 ⟨rfl, u3⟩
            have P4 := Lib.hid (P3.out.upd u3 (noB 0)); have U3 := Lib.hid (U2.out.then u3); clear u3
            go_wp2_with fail
            refine (L2.out _).mono ?_
            rintro e w4 ⟨rfl, u4⟩
            have P5 := Lib.hid (P4.out.upd u4 (noB 0)); have U4 := Lib.hid (U3.out.then u4); clear u4
            go_wp2_with fail
            refine (awake_any _ P5.out).mono ?_
            rintro e w5 ⟨rfl, u5⟩
            have U5 := Lib.hid (U4.out.then u5); clear u5
            go_wp2
            go_ret
            exact ⟨rfl, U5.out⟩
          · have t2 : decide (a ≤ 1073741824) = false := decide_eq_false c2
            go_wp2_with fail
            refine (awake_any _ P3.out).mono ?_
            rintro e w5 ⟨rfl, u5⟩
            have U5 := Lib.hid (U2.out.then u5); clear u5
            go_wp2
            go_ret
            exact ⟨rfl, U5.out⟩
        · have t1 : decide (1 ≤ a) = false := decide_eq_false c1
          go_wp2_with fail
          refine (awake_any _ P3.out).mono ?_
          rintro e w5 ⟨rfl, u5⟩
          have U5 := Lib.hid (U2.out.then u5); clear u5
          go_wp2
          go_ret
          exact ⟨rfl, U5.out⟩
  · subst hab
    obtain ⟨vnLog, enLog, vmLog, emLog, rnLog, rmLog, oLog⟩ := two_Log (n := a) (m := a) (by omega)
    have OLog := Lib.hid oLog; have RNLog := Lib.hid rnLog; have RMLog := Lib.hid rmLog
    clear oLog rnLog rmLog
    obtain ⟨vnExp, enExp, vmExp, emExp, rnExp, rmExp, oExp⟩ := two_Exp (n := a) (m := a) (by omega)
    have OExp := Lib.hid oExp; have RNExp := Lib.hid rnExp; have RMExp := Lib.hid rmExp
    clear oExp rnExp rmExp
    obtain ⟨vnStep, enStep, vmStep, emStep, rnStep, rmStep, oStep⟩ := two_Step (n := a) (m := a) (by omega)
    have OStep := Lib.hid oStep; have RNStep := Lib.hid rnStep; have RMStep := Lib.hid rmStep
    clear oStep rnStep rmStep
    obtain ⟨vnRoot, enRoot, vmRoot, emRoot, rnRoot, rmRoot, oRoot⟩ := two_Root (n := a) (m := a) (by omega)
    have ORoot := Lib.hid oRoot; have RNRoot := Lib.hid rnRoot; have RMRoot := Lib.hid rmRoot
    clear oRoot rnRoot rmRoot
    obtain ⟨vnCube, enCube, vmCube, emCube, rnCube, rmCube, oCube⟩ := two_Cube (n := a) (m := a) (by omega)
    have OCube := Lib.hid oCube; have RNCube := Lib.hid rnCube; have RMCube := Lib.hid rmCube
    clear oCube rnCube rmCube
    go_enter Tryd.func9, Tryd.ntmps9
    go_wp2_with fail
    go_loopw [29] (fun kv wr => ∃ k : Nat, kv = .int .i64 k ∧ k ≤ 5 ∧ Upd NoB w wr) (fun kv _ => 5 - (intOf kv).toNat)
    case atStart => exact ⟨0, rfl, by omega, Upd.refl _ _⟩
    case round =>
      obtain ⟨k, rfl, hk, hu⟩ := hrel
      have HU := Lib.hid hu; clear hu
      rcases (show k = 0 ∨ k = 1 ∨ k = 2 ∨ k = 3 ∨ k = 4 ∨ k = 5 by omega) with rfl | rfl | rfl | rfl | rfl | rfl
      · rcases OLog.out with ⟨z1, z2, z3⟩ | z1 | ⟨z1, z2⟩
        all_goals
          go_wp2_with fail
          refine (RNLog.out _).mono ?_
          rintro e w1 ⟨rfl, u1⟩
          have U1 := Lib.hid (HU.out.then u1); clear u1
          go_wp2_with fail
          refine (RMLog.out _).mono ?_
          rintro e w2 ⟨rfl, u2⟩
          have U2 := Lib.hid (U1.out.then u2); clear u2
          go_wp2
          go_roundw
          case rel => exact ⟨1, rfl, by omega, U2.out⟩
          case measure => simp [intOf]
      · rcases OExp.out with ⟨z1, z2, z3⟩ | z1 | ⟨z1, z2⟩
        all_goals
          go_wp2_with fail
          refine (RNExp.out _).mono ?_
          rintro e w1 ⟨rfl, u1⟩
          have U1 := Lib.hid (HU.out.then u1); clear u1
          go_wp2_with fail
          refine (RMExp.out _).mono ?_
          rintro e w2 ⟨rfl, u2⟩
          have U2 := Lib.hid (U1.out.then u2); clear u2
          go_wp2
          go_roundw
          case rel => exact ⟨2, rfl, by omega, U2.out⟩
          case measure => simp [intOf]
      · rcases OStep.out with ⟨z1, z2, z3⟩ | z1 | ⟨z1, z2⟩
        all_goals
          go_wp2_with fail
          refine (RNStep.out _).mono ?_
          rintro e w1 ⟨rfl, u1⟩
          have U1 := Lib.hid (HU.out.then u1); clear u1
          go_wp2_with fail
          refine (RMStep.out _).mono ?_
          rintro e w2 ⟨rfl, u2⟩
          have U2 := Lib.hid (U1.out.then u2); clear u2
          go_wp2
          go_roundw
          case rel => exact ⟨3, rfl, by omega, U2.out⟩
          case measure => simp [intOf]
      · rcases ORoot.out with ⟨z1, z2, z3⟩ | z1 | ⟨z1, z2⟩
        all_goals
          go_wp2_with fail
          refine (RNRoot.out _).mono ?_
          rintro e w1 ⟨rfl, u1⟩
          have U1 := Lib.hid (HU.out.then u1); clear u1
          go_wp2_with fail
          refine (RMRoot.out _).mono ?_
          rintro e w2 ⟨rfl, u2⟩
          have U2 := Lib.hid (U1.out.then u2); clear u2
          go_wp2
          go_roundw
          case rel => exact ⟨4, rfl, by omega, U2.out⟩
          case measure => simp [intOf]
      · rcases OCube.out with ⟨z1, z2, z3⟩ | z1 | ⟨z1, z2⟩
        all_goals
          go_wp2_with fail
          refine (RNCube.out _).mono ?_
          rintro e w1 ⟨rfl, u1⟩
          have U1 := Lib.hid (HU.out.then u1); clear u1
          go_wp2_with fail
          refine (RMCube.out _).mono ?_
          rintro e w2 ⟨rfl, u2⟩
          have U2 := Lib.hid (U1.out.then u2); clear u2
          go_wp2
          go_roundw
          case rel => exact ⟨5, rfl, by omega, U2.out⟩
          case measure => simp [intOf]
      · have P1 := Lib.hid (P0.out.upd HU.out (noB 0))
        go_wp2_with fail
        refine (LS.out _).mono ?_
        rintro e w1 ⟨rfl, u1⟩
        have P2 := Lib.hid (P1.out.upd u1 (noB 0)); have U1 := Lib.hid (HU.out.then u1); clear u1
        go_wp2_with fail
        refine (ES.out _).mono ?_
        rintro e w2 ⟨rfl, u2⟩
        have P3 := Lib.hid (P2.out.upd u2 (noB 0)); have U2 := Lib.hid (U1.out.then u2); clear u2
        by_cases c1 : 1 ≤ a
        · by_cases c2 : a ≤ 1073741824
          · obtain ⟨u, l1, l2, u0, u9⟩ := log_two c1 c2
            have L1 := Lib.hid l1; have L2 := Lib.hid l2; clear l1 l2
            go_wp2_with fail
            refine (L1.out _).mono ?_
            rintro e w3 ⟨rfl, u3⟩
            have P4 := Lib.hid (P3.out.upd u3 (noB 0)); have U3 := Lib.hid (U2.out.then u3); clear u3
            go_wp2_with fail
            refine (L2.out _).mono ?_
            rintro e w4 ⟨rfl, u4⟩
            have P5 := Lib.hid (P4.out.upd u4 (noB 0)); have U4 := Lib.hid (U3.out.then u4); clear u4
            go_wp2_with fail
            refine (awake_any _ P5.out).mono ?_
            rintro e w5 ⟨rfl, u5⟩
            have U5 := Lib.hid (U4.out.then u5); clear u5
            go_wp2
            go_ret
            exact ⟨rfl, U5.out⟩
          · have t2 : decide (a ≤ 1073741824) = false := decide_eq_false c2
            go_wp2_with fail
            refine (awake_any _ P3.out).mono ?_
            rintro e w5 ⟨rfl, u5⟩
            have U5 := Lib.hid (U2.out.then u5); clear u5
            go_wp2
            go_ret
            exact ⟨rfl, U5.out⟩
        · have t1 : decide (1 ≤ a) = false := decide_eq_false c1
          go_wp2_with fail
          refine (awake_any _ P3.out).mono ?_
          rintro e w5 ⟨rfl, u5⟩
          have U5 := Lib.hid (U2.out.then u5); clear u5
          go_wp2
          go_ret
          exact ⟨rfl, U5.out⟩
  · have hab2 : ¬ a < b := by omega
    obtain ⟨vnLog, enLog, vmLog, emLog, rnLog, rmLog, oLog⟩ := two_Log (n := b) (m := a) (by omega)
    have OLog := Lib.hid oLog; have RNLog := Lib.hid rnLog; have RMLog := Lib.hid rmLog
    clear oLog rnLog rmLog
    obtain ⟨vnExp, enExp, vmExp, emExp, rnExp, rmExp, oExp⟩ := two_Exp (n := b) (m := a) (by omega)
    have OExp := Lib.hid oExp; have RNExp := Lib.hid rnExp; have RMExp := Lib.hid rmExp
    clear oExp rnExp rmExp
    obtain ⟨vnStep, enStep, vmStep, emStep, rnStep, rmStep, oStep⟩ := two_Step (n := b) (m := a) (by omega)
    have OStep := Lib.hid oStep; have RNStep := Lib.hid rnStep; have RMStep := Lib.hid rmStep
    clear oStep rnStep rmStep
    obtain ⟨vnRoot, enRoot, vmRoot, emRoot, rnRoot, rmRoot, oRoot⟩ := two_Root (n := b) (m := a) (by omega)
    have ORoot := Lib.hid oRoot; have RNRoot := Lib.hid rnRoot; have RMRoot := Lib.hid rmRoot
    clear oRoot rnRoot rmRoot
    obtain ⟨vnCube, enCube, vmCube, emCube, rnCube, rmCube, oCube⟩ := two_Cube (n := b) (m := a) (by omega)
    have OCube := Lib.hid oCube; have RNCube := Lib.hid rnCube; have RMCube := Lib.hid rmCube
    clear oCube rnCube rmCube
    go_enter Tryd.func9, Tryd.ntmps9
    go_wp2_with fail
    go_loopw [29] (fun kv wr => ∃ k : Nat, kv = .int .i64 k ∧ k ≤ 5 ∧ Upd NoB w wr) (fun kv _ => 5 - (intOf kv).toNat)
    case atStart => exact ⟨0, rfl, by omega, Upd.refl _ _⟩
    case round =>
      obtain ⟨k, rfl, hk, hu⟩ := hrel
      have HU := Lib.hid hu; clear hu
      rcases (show k = 0 ∨ k = 1 ∨ k = 2 ∨ k = 3 ∨ k = 4 ∨ k = 5 by omega) with rfl | rfl | rfl | rfl | rfl | rfl
      · rcases OLog.out with ⟨z1, z2, z3⟩ | z1 | ⟨z1, z2⟩
        all_goals
          go_wp2_with fail
          refine (RNLog.out _).mono ?_
          rintro e w1 ⟨rfl, u1⟩
          have U1 := Lib.hid (HU.out.then u1); clear u1
          go_wp2_with fail
          refine (RMLog.out _).mono ?_
          rintro e w2 ⟨rfl, u2⟩
          have U2 := Lib.hid (U1.out.then u2); clear u2
          go_wp2
          go_roundw
          case rel => exact ⟨1, rfl, by omega, U2.out⟩
          case measure => simp [intOf]
      · rcases OExp.out with ⟨z1, z2, z3⟩ | z1 | ⟨z1, z2⟩
        all_goals
          go_wp2_with fail
          refine (RNExp.out _).mono ?_
          rintro e w1 ⟨rfl, u1⟩
          have U1 := Lib.hid (HU.out.then u1); clear u1
          go_wp2_with fail
          refine (RMExp.out _).mono ?_
          rintro e w2 ⟨rfl, u2⟩
          have U2 := Lib.hid (U1.out.then u2); clear u2
          go_wp2
          go_roundw
          case rel => exact ⟨2, rfl, by omega, U2.out⟩
          case measure => simp [intOf]
      · rcases OStep.out with ⟨z1, z2, z3⟩ | z1 | ⟨z1, z2⟩
        all_goals
          go_wp2_with fail
          refine (RNStep.out _).mono ?_
          rintro e w1 ⟨rfl, u1⟩
          have U1 := Lib.hid (HU.out.then u1); clear u1
          go_wp2_with fail
          refine (RMStep.out _).mono ?_
          rintro e w2 ⟨rfl, u2⟩
          have U2 := Lib.hid (U1.out.then u2); clear u2
          go_wp2
          go_roundw
          case rel => exact ⟨3, rfl, by omega, U2.out⟩
          case measure => simp [intOf]
      · rcases ORoot.out with ⟨z1, z2, z3⟩ | z1 | ⟨z1, z2⟩
        all_goals
          go_wp2_with fail
          refine (RNRoot.out _).mono ?_
          rintro e w1 ⟨rfl, u1⟩
          have U1 := Lib.hid (HU.out.then u1); clear u1
          go_wp2_with fail
          refine (RMRoot.out _).mono ?_
          rintro e w2 ⟨rfl, u2⟩
          have U2 := Lib.hid (U1.out.then u2); clear u2
          go_wp2
          go_roundw
          case rel => exact ⟨4, rfl, by omega, U2.out⟩
          case measure => simp [intOf]
      · rcases OCube.out with ⟨z1, z2, z3⟩ | z1 | ⟨z1, z2⟩
        all_goals
          go_wp2_with fail
          refine (RNCube.out _).mono ?_
          rintro e w1 ⟨rfl, u1⟩
          have U1 := Lib.hid (HU.out.then u1); clear u1
          go_wp2_with fail
          refine (RMCube.out _).mono ?_
          rintro e w2 ⟨rfl, u2⟩
          have U2 := Lib.hid (U1.out.then u2); clear u2
          go_wp2
          go_roundw
          case rel => exact ⟨5, rfl, by omega, U2.out⟩
          case measure => simp [intOf]
      · have P1 := Lib.hid (P0.out.upd HU.out (noB 0))
        go_wp2_with fail
        refine (LS.out _).mono ?_
        rintro e w1 ⟨rfl, u1⟩
        have P2 := Lib.hid (P1.out.upd u1 (noB 0)); have U1 := Lib.hid (HU.out.then u1); clear u1
        go_wp2_with fail
        refine (ES.out _).mono ?_
        rintro e w2 ⟨rfl, u2⟩
        have P3 := Lib.hid (P2.out.upd u2 (noB 0)); have U2 := Lib.hid (U1.out.then u2); clear u2
        by_cases c1 : 1 ≤ b
        · by_cases c2 : b ≤ 1073741824
          · obtain ⟨u, l1, l2, u0, u9⟩ := log_two c1 c2
            have L1 := Lib.hid l1; have L2 := Lib.hid l2; clear l1 l2
            go_wp2_with fail
            refine (L1.out _).mono ?_
            rintro e w3 ⟨rfl, u3⟩
            have P4 := Lib.hid (P3.out.upd u3 (noB 0)); have U3 := Lib.hid (U2.out.then u3); clear u3
            go_wp2_with fail
            refine (L2.out _).mono ?_
            rintro e w4 ⟨rfl, u4⟩
            have P5 := Lib.hid (P4.out.upd u4 (noB 0)); have U4 := Lib.hid (U3.out.then u4); clear u4
            go_wp2_with fail
            refine (awake_any _ P5.out).mono ?_
            rintro e w5 ⟨rfl, u5⟩
            have U5 := Lib.hid (U4.out.then u5); clear u5
            go_wp2
            go_ret
            exact ⟨rfl, U5.out⟩
          · have t2 : decide (b ≤ 1073741824) = false := decide_eq_false c2
            go_wp2_with fail
            refine (awake_any _ P3.out).mono ?_
            rintro e w5 ⟨rfl, u5⟩
            have U5 := Lib.hid (U2.out.then u5); clear u5
            go_wp2
            go_ret
            exact ⟨rfl, U5.out⟩
        · have t1 : decide (1 ≤ b) = false := decide_eq_false c1
          go_wp2_with fail
          refine (awake_any _ P3.out).mono ?_
          rintro e w5 ⟨rfl, u5⟩
          have U5 := Lib.hid (U2.out.then u5); clear u5
          go_wp2
          go_ret
          exact ⟨rfl, U5.out⟩

set_option maxRecDepth 100000 in
theorem rising_lifted (os : Os) (started : os.Started) (H : Type) (enc : TypeId × Value → H) :
    ReturnsInHanded {} Tryd.checked os 9 .any (fun w args => (Rows.fixedRisingSpec.pre enc Tryd.prog Tryd.f9 [] false w args ∧ laidMetH Tryd.prog laidL w) ∧ sizedMet enc Tryd.prog Tryd.f9 (OpenSpec.ofChange Rows.fixedRisingSpec) false w args)
      (Rows.fixedRisingSpec.post enc Tryd.prog Tryd.f9 false true false false) := by
  refine returnsInHanded_of_change_and (C := Tryd.checked) (X := fun w _ => laidMetH Tryd.prog laidL w) (fun _ _ _ hh h => h.of_heap hh) own started (by kernel_rfl) Tryd.func9
    (ChangeSpec.witness_shaped (enc := enc) (C := Tryd.checked) (os := os) (X := fun w _ => laidMetH Tryd.prog laidL w) false (World.doorLaid Tryd.prog 400 os) #[.int .i64 0, .int .i64 0, .int .u8 0] 8 rfl (World.shaped_of_RefB (by kernel_rfl) (by kernel_rfl)) (by kernel_rfl) (by kernel_rfl) (by kernel_rfl) (door_met os _)) ?_
  intro W base args ds gs before hval0 hW _ _ hL _
  have hval : ∀ (j : Nat) t v, Tryd.f9.params[j]? = some t → args[j]? = some v → Value.okWide Tryd.prog W .any base t v := hval0
  have hW' := hW
  obtain ⟨p, q, hA0, hV, rfl, hfz, hnd⟩ := hW
  have hA : DataW.TrodAll enc Tryd.prog W 0 (fun _ => true) true Tryd.f9.params.toList args.toList ds p := hA0
  rw [Tryd.params9] at hA hval
  obtain ⟨v0, vs0, d0, ds0, p0, q0, hargs, rfl, rfl, h0, r0⟩ := trodAll_cons hA
  obtain ⟨v1, vs1, d1, ds1, p1, q1, rfl, rfl, rfl, h1, r1⟩ := trodAll_cons r0
  obtain ⟨v2, vs2, d2, ds2, p2, q2, rfl, rfl, rfl, h2, r2⟩ := trodAll_cons r1
  obtain ⟨rfl, rfl, rfl⟩ := trodAll_nil r2
  obtain rfl : args = #[v0, v1, v2] := by cases args; simp_all
  obtain ⟨rfl, rfl⟩ := trodVars_none hV
  obtain ⟨n0, rfl, rfl, rfl, w0⟩ := open_int Tryd.underlying3 (hval 0 3 v0 rfl rfl) h0
  have hn0 : -9223372036854775808 ≤ n0 ∧ n0 ≤ 9223372036854775807 := by
    have h1 : IntKind.i64.min = -9223372036854775808 := rfl
    have h2 : IntKind.i64.max = 9223372036854775807 := rfl
    have w := w0
    simp only [Lit.wf, Bool.and_eq_true, decide_eq_true_eq] at w
    omega
  obtain ⟨n1, rfl, rfl, rfl, w1⟩ := open_int Tryd.underlying3 (hval 1 3 v1 rfl rfl) h1
  have hn1 : -9223372036854775808 ≤ n1 ∧ n1 ≤ 9223372036854775807 := by
    have h1 : IntKind.i64.min = -9223372036854775808 := rfl
    have h2 : IntKind.i64.max = 9223372036854775807 := rfl
    have w := w1
    simp only [Lit.wf, Bool.and_eq_true, decide_eq_true_eq] at w
    omega
  obtain ⟨n2, rfl, rfl, rfl, w2⟩ := open_int Tryd.underlying5 (hval 2 5 v2 rfl rfl) h2
  have hn2 : 0 ≤ n2 ∧ n2 ≤ 255 := by
    have h1 : IntKind.u8.min = 0 := rfl
    have h2 : IntKind.u8.max = 255 := rfl
    have w := w2
    simp only [Lit.wf, Bool.and_eq_true, decide_eq_true_eq] at w
    omega
  have hP := of_laid hL
  clear hA0 hval0 hL
  refine (rising_any n0 n1 n2 W hn2 hP).mono fun e W' ⟨he, u⟩ => ?_
  subst he
  have bel := u.below
  exact ⟨_, rfl, _, _, _, [], _, [], hW', trodAll_mk1 (shut_bool Tryd.underlying4 _), (trodAll_cons_mk (shut_int Tryd.underlying3 w0) (trodAll_cons_mk (shut_int Tryd.underlying3 w1) (trodAll_cons_mk (shut_int Tryd.underlying5 w2) trodAll_mk0))), rfl, bel.frame _, fun h => by cases h⟩

theorem rising_row : Rows.FixedRisingSaid :=
  OpenClaim.holds_of_wide 9 Tryd.f9 rfl rfl rfl rfl rfl rfl rfl ⟨rfl, rfl, rfl, rfl, rfl⟩ rfl rfl rfl rfl rfl (by kernel_rfl) Tryd.func9 (by kernel_rfl)
    (of_decide_eq_true (by kernel_rfl)) (by unfold Func.isWrapper; first | (rw [if_pos (by decide +kernel)]; kernel_rfl) | (rw [if_neg (by decide +kernel)]; exact ⟨rfl, rfl⟩))
    (fun os started H enc _ => rising_lifted os started H enc)

theorem rising_holds : Rows.FixedRisingCardSaid :=
  Claim7.holds_tied_plain_at .later [] [.data] true Rows.fixedRisingCard.stood.harness false
    rising_row (fun _ h => by cases h) (by kernel_rfl) (fun _ h => by cases h) fixedRising_row_tie rfl ⟨rfl, rfl⟩ (by kernel_rfl) rfl
    (fun f fn hf hfn => by
      obtain rfl : f = 9 := Option.some.inj ((show Tryd.prog.funcNamed "shawm/shawmlaw03.FixedRising" = some 9 by kernel_rfl).symm.trans hf) |>.symm
      obtain rfl : fn = Tryd.f9 := (Option.some.inj (Tryd.func9.symm.trans hfn)).symm
      exact ⟨by kernel_rfl, fun j t ht => by
        rw [Tryd.params9] at ht
        have hm : t ∈ [3, 5] := by have := Array.mem_of_getElem? ht; simpa using this
        have hall : ([3, 5].all fun u => !Tryd.prog.wantsStandIn u) = true := by kernel_rfl
        exact (show Tryd.prog.wantsStandIn t = false by simpa using List.all_eq_true.1 hall t hm)⟩)
    (by kernel_rfl)
end Go.Proofs.YthkekpfifgbmiaaDoor
