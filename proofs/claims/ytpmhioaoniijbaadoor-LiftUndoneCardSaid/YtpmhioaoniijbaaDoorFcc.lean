/- circle of the reference -/
import Derived.Test.YtpmhioaoniijbaaDoorFcb
namespace Go.Proofs.YtpmhioaoniijbaaDoor
open Go.RowKit Go.Shelf

/-- the rest within an octant, turned round in each second one -/
def octR (o r D : Nat) : Nat := if o % 2 = 1 then D - r else r
theorem rem_in {n : Int} {D : Nat} (hD : 1 ≤ D) : ∃ t : Nat, n - n / (D : Int) * D = (t : Int) ∧ t < D ∧ n % (D : Int) = (t : Int) := by
  have e := Int.mul_ediv_add_emod n D
  have e2 := Int.emod_nonneg n (show (D : Int) ≠ 0 by omega)
  have e3 := Int.emod_lt_of_pos n (show (0 : Int) < (D : Int) by omega)
  refine ⟨(n % (D : Int)).toNat, ?_, by omega, by omega⟩
  rw [Int.mul_comm (n / (D : Int))]
  omega
theorem cast_div (E D : Nat) : (E : Int) / (D : Int) = ((E / D : Nat) : Int) := rfl
theorem cast_mod (E D : Nat) : (E : Int) % (D : Int) = ((E % D : Nat) : Int) := rfl
theorem split_any (E d r : Nat) (hd : 0 < d) : E / d * r + E % d * r / d = E * r / d := by
  have e := Nat.div_add_mod E d
  generalize E / d = a at *
  generalize E % d = b at *
  rw [← e, Nat.add_mul, Nat.mul_assoc, Nat.mul_add_div hd]
theorem facts_any (E : Nat) (EI : Int) (hE : (E : Int) = EI) (hE2 : E ≤ 1152921504606846976) (D R : Nat) (hD : 1 ≤ D) (hD2 : D ≤ 32768) (hR : R ≤ D) : ∃ a b aR bR x y2 : Nat, EI / (D : Int) = (a : Int) ∧ EI % (D : Int) = (b : Int) ∧ (bR : Int) / (D : Int) = (y2 : Int) ∧ E * R / D = x ∧
    x ≤ 1152921504606846976 ∧ wrap64 ((a : Int) * R) = (aR : Int) ∧ wrap64 ((b : Int) * R) = (bR : Int) ∧ wrap64 (y2 : Int) = (y2 : Int) ∧ wrap64 ((aR : Int) + y2) = (x : Int) ∧ (b : Int) * R = (bR : Int) ∧ (a : Int) * R = (aR : Int) ∧ (aR : Int) + y2 = (x : Int) ∧ (aR : Int) ≤ 1152921504606846976 ∧ (bR : Int) ≤ 1073741824 ∧ (y2 : Int) ≤ 1073741824 := by
  subst hE
  obtain ⟨a, ea⟩ : ∃ a, E / D = a := ⟨_, rfl⟩
  obtain ⟨b, eb⟩ : ∃ b, E % D = b := ⟨_, rfl⟩
  obtain ⟨x, ex⟩ : ∃ x, E * R / D = x := ⟨_, rfl⟩
  have h1 : a * R ≤ E := by rw [← ea]; exact Nat.le_trans (Nat.mul_le_mul_left _ hR) (Nat.div_mul_le_self _ _)
  have hb : b < D := by rw [← eb]; exact Nat.mod_lt E (show 0 < D by omega)
  have h2 : b * R ≤ 32768 * 32768 := Nat.mul_le_mul (by omega) (by omega)
  have h3 : x ≤ E := by rw [← ex]; exact Nat.div_le_of_le_mul (by rw [Nat.mul_comm D]; exact Nat.mul_le_mul_left _ hR)
  have sp := split_any E D R hD
  rw [ea, eb, ex] at sp
  have j1 : (a : Int) * R = ((a * R : Nat) : Int) := by simp
  have j2 : (b : Int) * R = ((b * R : Nat) : Int) := by simp
  obtain ⟨aR, e1⟩ : ∃ aR, a * R = aR := ⟨_, rfl⟩
  obtain ⟨bR, e2⟩ : ∃ bR, b * R = bR := ⟨_, rfl⟩
  obtain ⟨y2, e3⟩ : ∃ y2, bR / D = y2 := ⟨_, rfl⟩
  rw [e1, e2, e3] at sp
  rw [e1] at j1 h1
  rw [e2] at j2 h2
  have h4 : y2 ≤ bR := by rw [← e3]; exact Nat.div_le_self _ _
  have k1 : (E : Int) / (D : Int) = (a : Int) := by rw [cast_div, ea]
  have k2 : (E : Int) % (D : Int) = (b : Int) := by rw [cast_mod, eb]
  have k3 : (bR : Int) / (D : Int) = (y2 : Int) := by rw [cast_div, e3]
  refine ⟨a, b, aR, bR, x, y2, k1, k2, k3, ex, ?_⟩
  clear k1 k2 k3 ea eb ex e3 e1 e2
  refine ⟨by omega, ?_, ?_, IntWalk.wrap64_in _ (by omega), ?_, j2, j1, by omega, by omega, by omega, by omega⟩
  · rw [j1]; exact IntWalk.wrap64_in _ (by omega)
  · rw [j2]; exact IntWalk.wrap64_in _ (by omega)
  · rw [show (aR : Int) + y2 = (x : Int) by omega]; exact IntWalk.wrap64_in _ (by omega)
theorem eighth_facts (D R : Nat) (hD : 1 ≤ D) (hD2 : D ≤ 32768) (hR : R ≤ D) : ∃ a b aR bR x y2 : Nat, (905502432259640355 : Int) / (D : Int) = (a : Int) ∧ (905502432259640355 : Int) % (D : Int) = (b : Int) ∧ (bR : Int) / (D : Int) = (y2 : Int) ∧ 905502432259640355 * R / D = x ∧
    x ≤ 1152921504606846976 ∧ wrap64 ((a : Int) * R) = (aR : Int) ∧ wrap64 ((b : Int) * R) = (bR : Int) ∧ wrap64 (y2 : Int) = (y2 : Int) ∧ wrap64 ((aR : Int) + y2) = (x : Int) ∧ (b : Int) * R = (bR : Int) ∧ (a : Int) * R = (aR : Int) ∧ (aR : Int) + y2 = (x : Int) ∧ (aR : Int) ≤ 1152921504606846976 ∧ (bR : Int) ≤ 1073741824 ∧ (y2 : Int) ≤ 1073741824 :=
  facts_any 905502432259640355 905502432259640355 (by simp) (by omega) D R hD hD2 hR
/-- the remainder, and the octant -/
theorem oct_facts (n : Int) (D t o r : Nat) (hD : 1 ≤ D) (hD2 : D ≤ 32768) (hn1 : -1099511627776 ≤ n) (hn2 : n ≤ 1099511627776) (ht : n % (D : Int) = (t : Int)) (ho : 8 * t / D = o) (hr : 8 * t % D = r) :
    ∃ y yD : Int, (∀ w, Calls Tryd.prog 27 #[.int .i64 n, .int .i64 D] w fun e w' => e = .returned (.int .i64 y) ∧ w' = w) ∧ wrap64 (y * (D : Int)) = yD ∧ wrap64 (n - yD) = (t : Int) ∧
      8 * (t : Int) / (D : Int) = (o : Int) ∧ 8 * (t : Int) % (D : Int) = (r : Int) ∧ o ≤ 7 ∧ r < D ∧ t < D ∧ y * (D : Int) = yD ∧ n - yD = (t : Int) := by
  obtain ⟨t', h1, h2, h3⟩ := rem_in (n := n) hD
  obtain rfl : t' = t := by omega
  have dn := fun w => down_any n D w (by omega) (by omega) (by omega) (by omega)
  have yb := ediv_in (a := n) (b := D) (by omega) (by omega) (by omega)
  obtain ⟨y, ey⟩ : ∃ y, n / (D : Int) = y := ⟨_, rfl⟩
  rw [ey] at dn h1 yb
  obtain ⟨yD, eyD⟩ : ∃ yD, y * (D : Int) = yD := ⟨_, rfl⟩
  rw [eyD] at h1
  have o7 : o ≤ 7 := by
    have : 8 * t' / D < 8 := Nat.div_lt_of_lt_mul (by rw [Nat.mul_comm D]; omega)
    omega
  have rD : r < D := by rw [← hr]; exact Nat.mod_lt _ (by omega)
  have e8 : (8 * (t' : Int)) = ((8 * t' : Nat) : Int) := by simp
  have d1 : (8 * (t' : Int)) / (D : Int) = (o : Int) := by rw [e8, ← ho]; rfl
  have d2 : (8 * (t' : Int)) % (D : Int) = (r : Int) := by rw [e8, ← hr]; rfl
  refine ⟨y, yD, dn, ?_, ?_, d1, d2, o7, rD, h2, eyD, h1⟩
  · rw [eyD]; exact IntWalk.wrap64_in _ (by omega)
  · rw [h1]; exact IntWalk.wrap64_in _ (by omega)
set_option maxRecDepth 100000 in
set_option maxHeartbeats 1000000 in
theorem rcircle_0 (n D t r a b aR bR x y2 y yD s c : Int) (w : World)
    (DN : RowKit.Hid (∀ w, Calls Tryd.prog 27 #[.int .i64 n, .int .i64 D] w fun e w' => e = .returned (.int .i64 y) ∧ w' = w))
    (SS : RowKit.Hid (∀ w, Calls Tryd.prog 67 #[.int .i64 x, .int .i64 1, .int .i64 x] w fun e w' => e = .returned (.int .i64 s) ∧ w' = w))
    (SC : RowKit.Hid (∀ w, Calls Tryd.prog 67 #[.int .i64 1152921504606846976, .int .i64 0, .int .i64 x] w fun e w' => e = .returned (.int .i64 c) ∧ w' = w))
    (w1 : IntKind.i64.wrap (y * D) = yD) (w2 : IntKind.i64.wrap (n - yD) = t) (t0 : 0 ≤ t) (t1 : t ≤ 32768) (D1 : 1 ≤ D) (D2 : D ≤ 32768) (d0 : D ≠ 0)
    (d1 : 8 * t / D = 0) (d2 : 8 * t % D = r) (r0 : 0 ≤ r) (r1 : r ≤ D)
    (I1 : RowKit.Hid ((905502432259640355 : Int) / D = a)) (I2 : RowKit.Hid ((905502432259640355 : Int) % D = b)) (m1 : wrap64 (a * r) = aR) (m2 : wrap64 (b * r) = bR) (d3 : bR.tdiv D = y2) (m3 : wrap64 y2 = y2) (m4 : wrap64 (aR + y2) = x) (m5 : wrap64 x = x)
    (n1 : IntKind.i64.wrap (-s) = -s) (n2 : IntKind.i64.wrap (-c) = -c) :
    Calls Tryd.prog 38 #[.int .i64 n, .int .i64 D] w fun e w' => e = .returned (.tuple #[.int .i64 (s), .int .i64 (c)]) ∧ ∃ k, w' = w.drewN k := by
  go_enter Tryd.func38, Tryd.ntmps38
  go_wp2_with fail
  refine (DN.out _).mono ?_
  rintro e w' ⟨rfl, rfl⟩
  go_wp2_with fail
  go_quiet (fail)
  rw [d1, d2]
  have i1 := I1.out
  have i2 := I2.out
  go_wp2_with fail
  go_quiet (fail)
  (try rw [d3])
  (try rw [m3])
  rw [m4]
  clear i1 i2 I1 I2 d1 d2 d3 m1 m2 m3 w1 w2
  go_wp2_with fail
  (with_reducible refine (SS.out _).mono ?_)
  rintro e w2 ⟨rfl, rfl⟩
  go_wp2_with fail
  (with_reducible refine (SC.out _).mono ?_)
  rintro e w2 ⟨rfl, rfl⟩
  go_wp2
  go_ret2
  exact ⟨rfl, _, by first | rfl | rw [World.drewN_drewN]⟩
set_option maxRecDepth 100000 in
set_option maxHeartbeats 1000000 in
theorem rcircle_1 (n D t r R a b aR bR x y2 y yD s c : Int) (w : World)
    (DN : RowKit.Hid (∀ w, Calls Tryd.prog 27 #[.int .i64 n, .int .i64 D] w fun e w' => e = .returned (.int .i64 y) ∧ w' = w))
    (SS : RowKit.Hid (∀ w, Calls Tryd.prog 67 #[.int .i64 x, .int .i64 1, .int .i64 x] w fun e w' => e = .returned (.int .i64 s) ∧ w' = w))
    (SC : RowKit.Hid (∀ w, Calls Tryd.prog 67 #[.int .i64 1152921504606846976, .int .i64 0, .int .i64 x] w fun e w' => e = .returned (.int .i64 c) ∧ w' = w))
    (w1 : IntKind.i64.wrap (y * D) = yD) (w2 : IntKind.i64.wrap (n - yD) = t) (t0 : 0 ≤ t) (t1 : t ≤ 32768) (D1 : 1 ≤ D) (D2 : D ≤ 32768) (d0 : D ≠ 0)
    (d1 : 8 * t / D = 1) (d2 : 8 * t % D = r) (r0 : 0 ≤ r) (r1 : r ≤ D) (r2 : IntKind.i64.wrap (D - r) = R)
    (I1 : RowKit.Hid ((905502432259640355 : Int) / D = a)) (I2 : RowKit.Hid ((905502432259640355 : Int) % D = b)) (m1 : wrap64 (a * R) = aR) (m2 : wrap64 (b * R) = bR) (d3 : bR.tdiv D = y2) (m3 : wrap64 y2 = y2) (m4 : wrap64 (aR + y2) = x) (m5 : wrap64 x = x)
    (n1 : IntKind.i64.wrap (-s) = -s) (n2 : IntKind.i64.wrap (-c) = -c) :
    Calls Tryd.prog 38 #[.int .i64 n, .int .i64 D] w fun e w' => e = .returned (.tuple #[.int .i64 (c), .int .i64 (s)]) ∧ ∃ k, w' = w.drewN k := by
  go_enter Tryd.func38, Tryd.ntmps38
  go_wp2_with fail
  refine (DN.out _).mono ?_
  rintro e w' ⟨rfl, rfl⟩
  go_wp2_with fail
  go_quiet (fail)
  rw [d1, d2]
  have i1 := I1.out
  have i2 := I2.out
  go_wp2_with fail
  go_quiet (fail)
  (try rw [d3])
  (try rw [m3])
  rw [m4]
  clear i1 i2 I1 I2 d1 d2 d3 m1 m2 m3 w1 w2
  go_wp2_with fail
  (with_reducible refine (SS.out _).mono ?_)
  rintro e w2 ⟨rfl, rfl⟩
  go_wp2_with fail
  (with_reducible refine (SC.out _).mono ?_)
  rintro e w2 ⟨rfl, rfl⟩
  go_wp2
  go_ret2
  exact ⟨rfl, _, by first | rfl | rw [World.drewN_drewN]⟩
set_option maxRecDepth 100000 in
set_option maxHeartbeats 1000000 in
theorem rcircle_2 (n D t r a b aR bR x y2 y yD s c : Int) (w : World)
    (DN : RowKit.Hid (∀ w, Calls Tryd.prog 27 #[.int .i64 n, .int .i64 D] w fun e w' => e = .returned (.int .i64 y) ∧ w' = w))
    (SS : RowKit.Hid (∀ w, Calls Tryd.prog 67 #[.int .i64 x, .int .i64 1, .int .i64 x] w fun e w' => e = .returned (.int .i64 s) ∧ w' = w))
    (SC : RowKit.Hid (∀ w, Calls Tryd.prog 67 #[.int .i64 1152921504606846976, .int .i64 0, .int .i64 x] w fun e w' => e = .returned (.int .i64 c) ∧ w' = w))
    (w1 : IntKind.i64.wrap (y * D) = yD) (w2 : IntKind.i64.wrap (n - yD) = t) (t0 : 0 ≤ t) (t1 : t ≤ 32768) (D1 : 1 ≤ D) (D2 : D ≤ 32768) (d0 : D ≠ 0)
    (d1 : 8 * t / D = 2) (d2 : 8 * t % D = r) (r0 : 0 ≤ r) (r1 : r ≤ D)
    (I1 : RowKit.Hid ((905502432259640355 : Int) / D = a)) (I2 : RowKit.Hid ((905502432259640355 : Int) % D = b)) (m1 : wrap64 (a * r) = aR) (m2 : wrap64 (b * r) = bR) (d3 : bR.tdiv D = y2) (m3 : wrap64 y2 = y2) (m4 : wrap64 (aR + y2) = x) (m5 : wrap64 x = x)
    (n1 : IntKind.i64.wrap (-s) = -s) (n2 : IntKind.i64.wrap (-c) = -c) :
    Calls Tryd.prog 38 #[.int .i64 n, .int .i64 D] w fun e w' => e = .returned (.tuple #[.int .i64 (c), .int .i64 (-s)]) ∧ ∃ k, w' = w.drewN k := by
  go_enter Tryd.func38, Tryd.ntmps38
  go_wp2_with fail
  refine (DN.out _).mono ?_
  rintro e w' ⟨rfl, rfl⟩
  go_wp2_with fail
  go_quiet (fail)
  rw [d1, d2]
  have i1 := I1.out
  have i2 := I2.out
  go_wp2_with fail
  go_quiet (fail)
  (try rw [d3])
  (try rw [m3])
  rw [m4]
  clear i1 i2 I1 I2 d1 d2 d3 m1 m2 m3 w1 w2
  go_wp2_with fail
  (with_reducible refine (SS.out _).mono ?_)
  rintro e w2 ⟨rfl, rfl⟩
  go_wp2_with fail
  (with_reducible refine (SC.out _).mono ?_)
  rintro e w2 ⟨rfl, rfl⟩
  go_wp2
  go_ret2
  exact ⟨rfl, _, by first | rfl | rw [World.drewN_drewN]⟩
set_option maxRecDepth 100000 in
set_option maxHeartbeats 1000000 in
theorem rcircle_3 (n D t r R a b aR bR x y2 y yD s c : Int) (w : World)
    (DN : RowKit.Hid (∀ w, Calls Tryd.prog 27 #[.int .i64 n, .int .i64 D] w fun e w' => e = .returned (.int .i64 y) ∧ w' = w))
    (SS : RowKit.Hid (∀ w, Calls Tryd.prog 67 #[.int .i64 x, .int .i64 1, .int .i64 x] w fun e w' => e = .returned (.int .i64 s) ∧ w' = w))
    (SC : RowKit.Hid (∀ w, Calls Tryd.prog 67 #[.int .i64 1152921504606846976, .int .i64 0, .int .i64 x] w fun e w' => e = .returned (.int .i64 c) ∧ w' = w))
    (w1 : IntKind.i64.wrap (y * D) = yD) (w2 : IntKind.i64.wrap (n - yD) = t) (t0 : 0 ≤ t) (t1 : t ≤ 32768) (D1 : 1 ≤ D) (D2 : D ≤ 32768) (d0 : D ≠ 0)
    (d1 : 8 * t / D = 3) (d2 : 8 * t % D = r) (r0 : 0 ≤ r) (r1 : r ≤ D) (r2 : IntKind.i64.wrap (D - r) = R)
    (I1 : RowKit.Hid ((905502432259640355 : Int) / D = a)) (I2 : RowKit.Hid ((905502432259640355 : Int) % D = b)) (m1 : wrap64 (a * R) = aR) (m2 : wrap64 (b * R) = bR) (d3 : bR.tdiv D = y2) (m3 : wrap64 y2 = y2) (m4 : wrap64 (aR + y2) = x) (m5 : wrap64 x = x)
    (n1 : IntKind.i64.wrap (-s) = -s) (n2 : IntKind.i64.wrap (-c) = -c) :
    Calls Tryd.prog 38 #[.int .i64 n, .int .i64 D] w fun e w' => e = .returned (.tuple #[.int .i64 (s), .int .i64 (-c)]) ∧ ∃ k, w' = w.drewN k := by
  go_enter Tryd.func38, Tryd.ntmps38
  go_wp2_with fail
  refine (DN.out _).mono ?_
  rintro e w' ⟨rfl, rfl⟩
  go_wp2_with fail
  go_quiet (fail)
  rw [d1, d2]
  have i1 := I1.out
  have i2 := I2.out
  go_wp2_with fail
  go_quiet (fail)
  (try rw [d3])
  (try rw [m3])
  rw [m4]
  clear i1 i2 I1 I2 d1 d2 d3 m1 m2 m3 w1 w2
  go_wp2_with fail
  (with_reducible refine (SS.out _).mono ?_)
  rintro e w2 ⟨rfl, rfl⟩
  go_wp2_with fail
  (with_reducible refine (SC.out _).mono ?_)
  rintro e w2 ⟨rfl, rfl⟩
  go_wp2
  go_ret2
  exact ⟨rfl, _, by first | rfl | rw [World.drewN_drewN]⟩
set_option maxRecDepth 100000 in
set_option maxHeartbeats 1000000 in
theorem rcircle_4 (n D t r a b aR bR x y2 y yD s c : Int) (w : World)
    (DN : RowKit.Hid (∀ w, Calls Tryd.prog 27 #[.int .i64 n, .int .i64 D] w fun e w' => e = .returned (.int .i64 y) ∧ w' = w))
    (SS : RowKit.Hid (∀ w, Calls Tryd.prog 67 #[.int .i64 x, .int .i64 1, .int .i64 x] w fun e w' => e = .returned (.int .i64 s) ∧ w' = w))
    (SC : RowKit.Hid (∀ w, Calls Tryd.prog 67 #[.int .i64 1152921504606846976, .int .i64 0, .int .i64 x] w fun e w' => e = .returned (.int .i64 c) ∧ w' = w))
    (w1 : IntKind.i64.wrap (y * D) = yD) (w2 : IntKind.i64.wrap (n - yD) = t) (t0 : 0 ≤ t) (t1 : t ≤ 32768) (D1 : 1 ≤ D) (D2 : D ≤ 32768) (d0 : D ≠ 0)
    (d1 : 8 * t / D = 4) (d2 : 8 * t % D = r) (r0 : 0 ≤ r) (r1 : r ≤ D)
    (I1 : RowKit.Hid ((905502432259640355 : Int) / D = a)) (I2 : RowKit.Hid ((905502432259640355 : Int) % D = b)) (m1 : wrap64 (a * r) = aR) (m2 : wrap64 (b * r) = bR) (d3 : bR.tdiv D = y2) (m3 : wrap64 y2 = y2) (m4 : wrap64 (aR + y2) = x) (m5 : wrap64 x = x)
    (n1 : IntKind.i64.wrap (-s) = -s) (n2 : IntKind.i64.wrap (-c) = -c) :
    Calls Tryd.prog 38 #[.int .i64 n, .int .i64 D] w fun e w' => e = .returned (.tuple #[.int .i64 (-s), .int .i64 (-c)]) ∧ ∃ k, w' = w.drewN k := by
  go_enter Tryd.func38, Tryd.ntmps38
  go_wp2_with fail
  refine (DN.out _).mono ?_
  rintro e w' ⟨rfl, rfl⟩
  go_wp2_with fail
  go_quiet (fail)
  rw [d1, d2]
  have i1 := I1.out
  have i2 := I2.out
  go_wp2_with fail
  go_quiet (fail)
  (try rw [d3])
  (try rw [m3])
  rw [m4]
  clear i1 i2 I1 I2 d1 d2 d3 m1 m2 m3 w1 w2
  go_wp2_with fail
  (with_reducible refine (SS.out _).mono ?_)
  rintro e w2 ⟨rfl, rfl⟩
  go_wp2_with fail
  (with_reducible refine (SC.out _).mono ?_)
  rintro e w2 ⟨rfl, rfl⟩
  go_wp2
  go_ret2
  exact ⟨rfl, _, by first | rfl | rw [World.drewN_drewN]⟩
set_option maxRecDepth 100000 in
set_option maxHeartbeats 1000000 in
theorem rcircle_5 (n D t r R a b aR bR x y2 y yD s c : Int) (w : World)
    (DN : RowKit.Hid (∀ w, Calls Tryd.prog 27 #[.int .i64 n, .int .i64 D] w fun e w' => e = .returned (.int .i64 y) ∧ w' = w))
    (SS : RowKit.Hid (∀ w, Calls Tryd.prog 67 #[.int .i64 x, .int .i64 1, .int .i64 x] w fun e w' => e = .returned (.int .i64 s) ∧ w' = w))
    (SC : RowKit.Hid (∀ w, Calls Tryd.prog 67 #[.int .i64 1152921504606846976, .int .i64 0, .int .i64 x] w fun e w' => e = .returned (.int .i64 c) ∧ w' = w))
    (w1 : IntKind.i64.wrap (y * D) = yD) (w2 : IntKind.i64.wrap (n - yD) = t) (t0 : 0 ≤ t) (t1 : t ≤ 32768) (D1 : 1 ≤ D) (D2 : D ≤ 32768) (d0 : D ≠ 0)
    (d1 : 8 * t / D = 5) (d2 : 8 * t % D = r) (r0 : 0 ≤ r) (r1 : r ≤ D) (r2 : IntKind.i64.wrap (D - r) = R)
    (I1 : RowKit.Hid ((905502432259640355 : Int) / D = a)) (I2 : RowKit.Hid ((905502432259640355 : Int) % D = b)) (m1 : wrap64 (a * R) = aR) (m2 : wrap64 (b * R) = bR) (d3 : bR.tdiv D = y2) (m3 : wrap64 y2 = y2) (m4 : wrap64 (aR + y2) = x) (m5 : wrap64 x = x)
    (n1 : IntKind.i64.wrap (-s) = -s) (n2 : IntKind.i64.wrap (-c) = -c) :
    Calls Tryd.prog 38 #[.int .i64 n, .int .i64 D] w fun e w' => e = .returned (.tuple #[.int .i64 (-c), .int .i64 (-s)]) ∧ ∃ k, w' = w.drewN k := by
  go_enter Tryd.func38, Tryd.ntmps38
  go_wp2_with fail
  refine (DN.out _).mono ?_
  rintro e w' ⟨rfl, rfl⟩
  go_wp2_with fail
  go_quiet (fail)
  rw [d1, d2]
  have i1 := I1.out
  have i2 := I2.out
  go_wp2_with fail
  go_quiet (fail)
  (try rw [d3])
  (try rw [m3])
  rw [m4]
  clear i1 i2 I1 I2 d1 d2 d3 m1 m2 m3 w1 w2
  go_wp2_with fail
  (with_reducible refine (SS.out _).mono ?_)
  rintro e w2 ⟨rfl, rfl⟩
  go_wp2_with fail
  (with_reducible refine (SC.out _).mono ?_)
  rintro e w2 ⟨rfl, rfl⟩
  go_wp2
  go_ret2
  exact ⟨rfl, _, by first | rfl | rw [World.drewN_drewN]⟩
set_option maxRecDepth 100000 in
set_option maxHeartbeats 1000000 in
theorem rcircle_6 (n D t r a b aR bR x y2 y yD s c : Int) (w : World)
    (DN : RowKit.Hid (∀ w, Calls Tryd.prog 27 #[.int .i64 n, .int .i64 D] w fun e w' => e = .returned (.int .i64 y) ∧ w' = w))
    (SS : RowKit.Hid (∀ w, Calls Tryd.prog 67 #[.int .i64 x, .int .i64 1, .int .i64 x] w fun e w' => e = .returned (.int .i64 s) ∧ w' = w))
    (SC : RowKit.Hid (∀ w, Calls Tryd.prog 67 #[.int .i64 1152921504606846976, .int .i64 0, .int .i64 x] w fun e w' => e = .returned (.int .i64 c) ∧ w' = w))
    (w1 : IntKind.i64.wrap (y * D) = yD) (w2 : IntKind.i64.wrap (n - yD) = t) (t0 : 0 ≤ t) (t1 : t ≤ 32768) (D1 : 1 ≤ D) (D2 : D ≤ 32768) (d0 : D ≠ 0)
    (d1 : 8 * t / D = 6) (d2 : 8 * t % D = r) (r0 : 0 ≤ r) (r1 : r ≤ D)
    (I1 : RowKit.Hid ((905502432259640355 : Int) / D = a)) (I2 : RowKit.Hid ((905502432259640355 : Int) % D = b)) (m1 : wrap64 (a * r) = aR) (m2 : wrap64 (b * r) = bR) (d3 : bR.tdiv D = y2) (m3 : wrap64 y2 = y2) (m4 : wrap64 (aR + y2) = x) (m5 : wrap64 x = x)
    (n1 : IntKind.i64.wrap (-s) = -s) (n2 : IntKind.i64.wrap (-c) = -c) :
    Calls Tryd.prog 38 #[.int .i64 n, .int .i64 D] w fun e w' => e = .returned (.tuple #[.int .i64 (-c), .int .i64 (s)]) ∧ ∃ k, w' = w.drewN k := by
  go_enter Tryd.func38, Tryd.ntmps38
  go_wp2_with fail
  refine (DN.out _).mono ?_
  rintro e w' ⟨rfl, rfl⟩
  go_wp2_with fail
  go_quiet (fail)
  rw [d1, d2]
  have i1 := I1.out
  have i2 := I2.out
  go_wp2_with fail
  go_quiet (fail)
  (try rw [d3])
  (try rw [m3])
  rw [m4]
  clear i1 i2 I1 I2 d1 d2 d3 m1 m2 m3 w1 w2
  go_wp2_with fail
  (with_reducible refine (SS.out _).mono ?_)
  rintro e w2 ⟨rfl, rfl⟩
  go_wp2_with fail
  (with_reducible refine (SC.out _).mono ?_)
  rintro e w2 ⟨rfl, rfl⟩
  go_wp2
  go_ret2
  exact ⟨rfl, _, by first | rfl | rw [World.drewN_drewN]⟩
set_option maxRecDepth 100000 in
set_option maxHeartbeats 1000000 in
theorem rcircle_7 (n D t r R a b aR bR x y2 y yD s c : Int) (w : World)
    (DN : RowKit.Hid (∀ w, Calls Tryd.prog 27 #[.int .i64 n, .int .i64 D] w fun e w' => e = .returned (.int .i64 y) ∧ w' = w))
    (SS : RowKit.Hid (∀ w, Calls Tryd.prog 67 #[.int .i64 x, .int .i64 1, .int .i64 x] w fun e w' => e = .returned (.int .i64 s) ∧ w' = w))
    (SC : RowKit.Hid (∀ w, Calls Tryd.prog 67 #[.int .i64 1152921504606846976, .int .i64 0, .int .i64 x] w fun e w' => e = .returned (.int .i64 c) ∧ w' = w))
    (w1 : IntKind.i64.wrap (y * D) = yD) (w2 : IntKind.i64.wrap (n - yD) = t) (t0 : 0 ≤ t) (t1 : t ≤ 32768) (D1 : 1 ≤ D) (D2 : D ≤ 32768) (d0 : D ≠ 0)
    (d1 : 8 * t / D = 7) (d2 : 8 * t % D = r) (r0 : 0 ≤ r) (r1 : r ≤ D) (r2 : IntKind.i64.wrap (D - r) = R)
    (I1 : RowKit.Hid ((905502432259640355 : Int) / D = a)) (I2 : RowKit.Hid ((905502432259640355 : Int) % D = b)) (m1 : wrap64 (a * R) = aR) (m2 : wrap64 (b * R) = bR) (d3 : bR.tdiv D = y2) (m3 : wrap64 y2 = y2) (m4 : wrap64 (aR + y2) = x) (m5 : wrap64 x = x)
    (n1 : IntKind.i64.wrap (-s) = -s) (n2 : IntKind.i64.wrap (-c) = -c) :
    Calls Tryd.prog 38 #[.int .i64 n, .int .i64 D] w fun e w' => e = .returned (.tuple #[.int .i64 (-s), .int .i64 (c)]) ∧ ∃ k, w' = w.drewN k := by
  go_enter Tryd.func38, Tryd.ntmps38
  go_wp2_with fail
  refine (DN.out _).mono ?_
  rintro e w' ⟨rfl, rfl⟩
  go_wp2_with fail
  go_quiet (fail)
  rw [d1, d2]
  have i1 := I1.out
  have i2 := I2.out
  go_wp2_with fail
  go_quiet (fail)
  (try rw [d3])
  (try rw [m3])
  rw [m4]
  clear i1 i2 I1 I2 d1 d2 d3 m1 m2 m3 w1 w2
  go_wp2_with fail
  (with_reducible refine (SS.out _).mono ?_)
  rintro e w2 ⟨rfl, rfl⟩
  go_wp2_with fail
  (with_reducible refine (SC.out _).mono ?_)
  rintro e w2 ⟨rfl, rfl⟩
  go_wp2
  go_ret2
  exact ⟨rfl, _, by first | rfl | rw [World.drewN_drewN]⟩
theorem rcircle_any (n : Int) (D t o r : Nat) (s c : Int) (w : World) (hD : 1 ≤ D) (hD2 : D ≤ 32768) (hn1 : -1099511627776 ≤ n) (hn2 : n ≤ 1099511627776) (ht : n % (D : Int) = (t : Int))
    (ho : 8 * t / D = o) (hr : 8 * t % D = r)
    (hs : ((ser (905502432259640355 * octR o r D / D) 62 (905502432259640355 * octR o r D / D) 1 : Nat) : Int) = s) (hc : ((ser (905502432259640355 * octR o r D / D) 62 1152921504606846976 0 : Nat) : Int) = c) :
    Calls Tryd.prog 38 #[.int .i64 n, .int .i64 D] w fun e w' => e = .returned (.tuple #[.int .i64 (octF o s c).1, .int .i64 (octF o s c).2]) ∧ ∃ k, w' = w.drewN k := by
  obtain ⟨y, yD, dn, w1, w2, d1, d2, o7, rD, tD, w1e, w2e⟩ := oct_facts n D t o r hD hD2 hn1 hn2 ht ho hr
  clear ht ho hr
  have w1' : IntKind.i64.wrap (y * (D : Int)) = yD := by rw [w1e]; exact IntWalk.i64_in _ (by clear d1 d2 hs hc w1 w1e; omega)
  have w2' : IntKind.i64.wrap (n - yD) = (t : Int) := by rw [w2e]; exact IntWalk.i64_in _ (by clear d1 d2 hs hc w1 w1e w1' w2; omega)
  have RD : octR o r D ≤ D := by unfold octR; split <;> (clear d1 d2 hs hc w1 w1e w1' w2 w2e w2'; omega)
  have odd : o % 2 = 1 → octR o r D = D - r := fun h => by unfold octR; rw [if_pos h]
  have even : ¬ o % 2 = 1 → octR o r D = r := fun h => by unfold octR; rw [if_neg h]
  obtain ⟨R, eR⟩ : ∃ R, octR o r D = R := ⟨_, rfl⟩
  rw [eR] at RD hs hc odd even
  obtain ⟨a, b, aR, bR, x, y2, i1, i2, d3, ex, b5, m1, m2, m3, m4, _, _, m5, b3, b4, b6⟩ := eighth_facts D R hD hD2 RD
  rw [ex] at hs hc
  have I1 := Lib.hid i1
  have I2 := Lib.hid i2
  have l1 := ser_le (x := x) 62 x 1
  have l2 := ser_le (x := x) 62 1152921504606846976 0
  have z1 : ∀ w, Calls Tryd.prog 67 #[.int .i64 x, .int .i64 1, .int .i64 x] w fun e w' => e = .returned (.int .i64 s) ∧ w' = w := fun w => by rw [← hs]; exact series_any x 1 x w b5 (Nat.le_refl _) b5
  have z2 : ∀ w, Calls Tryd.prog 67 #[.int .i64 1152921504606846976, .int .i64 0, .int .i64 x] w fun e w' => e = .returned (.int .i64 c) ∧ w' = w := fun w => by rw [← hc]; exact series_any 1152921504606846976 0 x w (Nat.le_refl _) (by decide) b5
  have q1 : 0 ≤ s ∧ s ≤ 1152921504606846976 := by rw [← hs]; clear i1 i2 ex d1 d2 d3 I1 I2 z1 z2 hs hc m1 m2 m3 m4 w1 w1' w2 w2' dn w1e w2e m5; omega
  have q2 : 0 ≤ c ∧ c ≤ 1152921504606846976 := by rw [← hc]; clear i1 i2 ex d1 d2 d3 I1 I2 z1 z2 hs hc m1 m2 m3 m4 w1 w1' w2 w2' dn w1e w2e m5; omega
  have n1 : IntKind.i64.wrap (-s) = -s := IntWalk.i64_in _ (by clear i1 i2 ex d1 d2 d3 I1 I2 z1 z2 hs hc m1 m2 m3 m4 w1 w1' w2 w2' dn w1e w2e m5; omega)
  have n2 : IntKind.i64.wrap (-c) = -c := IntWalk.i64_in _ (by clear i1 i2 ex d1 d2 d3 I1 I2 z1 z2 hs hc m1 m2 m3 m4 w1 w1' w2 w2' dn w1e w2e m5 n1; omega)
  have m5' : wrap64 (x : Int) = (x : Int) := IntWalk.wrap64_in _ (by clear i1 i2 ex d1 d2 d3 I1 I2 z1 z2 hs hc m1 m2 m3 m4 w1 w1' w2 w2' dn w1e w2e m5; omega)
  have d3' : (bR : Int).tdiv (D : Int) = (y2 : Int) := by rw [Int.tdiv_eq_ediv_of_nonneg (Int.natCast_nonneg _)]; exact d3
  have t0 := Int.natCast_nonneg t
  have t1 : (t : Int) ≤ 32768 := by clear i1 i2 ex d1 d2 d3 d3' I1 I2 z1 z2 hs hc m1 m2 m3 m4 m5 w1 w1' w2 w2' dn w1e w2e; omega
  have D1 : (1 : Int) ≤ D := Int.ofNat_le.2 hD
  have D2 : (D : Int) ≤ 32768 := Int.ofNat_le.2 hD2
  have D0 : (D : Int) ≠ 0 := fun h => by rw [h] at D1; exact absurd D1 (by decide)
  have r0 := Int.natCast_nonneg r
  have r1 : (r : Int) ≤ D := Int.ofNat_le.2 (Nat.le_of_lt rD)
  have r2 : R = D - r → IntKind.i64.wrap ((D : Int) - r) = (R : Int) := fun h => by
    have e : (D : Int) - r = (R : Int) := by clear i1 i2 ex d1 d2 d3 d3' I1 I2 z1 z2 hs hc m1 m2 m3 m4 m5 w1 w1' w2 w2' dn w1e w2e; omega
    rw [e]; exact IntWalk.i64_in _ (by clear i1 i2 ex d1 d2 d3 d3' I1 I2 z1 z2 hs hc m1 m2 m3 m4 m5 w1 w1' w2 w2' dn w1e w2e; omega)
  have DN := Lib.hid dn
  have Z1 := Lib.hid z1
  have Z2 := Lib.hid z2
  clear dn z1 z2 i1 i2 ex hs hc eR
  match o, o7 with
  | 0, _ => obtain rfl := even (by decide); exact rcircle_0 n D t _ a b aR bR x y2 y yD s c w DN Z1 Z2 w1' w2' t0 t1 D1 D2 D0 d1 d2 r0 r1 I1 I2 m1 m2 d3' m3 m4 m5' n1 n2
  | 1, _ => exact rcircle_1 n D t r R a b aR bR x y2 y yD s c w DN Z1 Z2 w1' w2' t0 t1 D1 D2 D0 d1 d2 r0 r1 (r2 (odd (by decide))) I1 I2 m1 m2 d3' m3 m4 m5' n1 n2
  | 2, _ => obtain rfl := even (by decide); exact rcircle_2 n D t _ a b aR bR x y2 y yD s c w DN Z1 Z2 w1' w2' t0 t1 D1 D2 D0 d1 d2 r0 r1 I1 I2 m1 m2 d3' m3 m4 m5' n1 n2
  | 3, _ => exact rcircle_3 n D t r R a b aR bR x y2 y yD s c w DN Z1 Z2 w1' w2' t0 t1 D1 D2 D0 d1 d2 r0 r1 (r2 (odd (by decide))) I1 I2 m1 m2 d3' m3 m4 m5' n1 n2
  | 4, _ => obtain rfl := even (by decide); exact rcircle_4 n D t _ a b aR bR x y2 y yD s c w DN Z1 Z2 w1' w2' t0 t1 D1 D2 D0 d1 d2 r0 r1 I1 I2 m1 m2 d3' m3 m4 m5' n1 n2
  | 5, _ => exact rcircle_5 n D t r R a b aR bR x y2 y yD s c w DN Z1 Z2 w1' w2' t0 t1 D1 D2 D0 d1 d2 r0 r1 (r2 (odd (by decide))) I1 I2 m1 m2 d3' m3 m4 m5' n1 n2
  | 6, _ => obtain rfl := even (by decide); exact rcircle_6 n D t _ a b aR bR x y2 y yD s c w DN Z1 Z2 w1' w2' t0 t1 D1 D2 D0 d1 d2 r0 r1 I1 I2 m1 m2 d3' m3 m4 m5' n1 n2
  | 7, _ => exact rcircle_7 n D t r R a b aR bR x y2 y yD s c w DN Z1 Z2 w1' w2' t0 t1 D1 D2 D0 d1 d2 r0 r1 (r2 (odd (by decide))) I1 I2 m1 m2 d3' m3 m4 m5' n1 n2
end Go.Proofs.YtpmhioaoniijbaaDoor
