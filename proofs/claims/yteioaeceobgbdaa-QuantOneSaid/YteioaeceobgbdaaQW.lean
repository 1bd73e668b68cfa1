/- quant: the reference's powers and values; first, Nearest -/
import Derived.Test.YteioaeceobgbdaaQV
namespace Go.Proofs.Yteioaeceobgbdaa
open Go.RowKit Go.Shelf

set_option maxRecDepth 100000 in
theorem rScale_any (s : Int) (w : World) : Calls Try.prog 48 #[.int .i64 s] w fun e w' => e = .returned (.bool (decide (0 ≤ s ∧ s ≤ 95))) ∧ w' = w := by
  by_cases a : 0 ≤ s
  · have t1 : decide (0 ≤ s) = true := decide_eq_true a
    by_cases b : s ≤ 95
    · have t2 : decide (s ≤ 95) = true := decide_eq_true b
      have HF := Lib.hid (show decide (0 ≤ s ∧ s ≤ 95) = true from decide_eq_true ⟨a, b⟩)
      clear a b
      go_enter Try.func48, Try.ntmps48
      go_wp2_with fail
      go_ret
      exact ⟨by rw [HF.out]; rfl, rfl⟩
    · have t2 : decide (s ≤ 95) = false := decide_eq_false b
      have HF := Lib.hid (show decide (0 ≤ s ∧ s ≤ 95) = false from decide_eq_false (fun h => b h.2))
      clear a b
      go_enter Try.func48, Try.ntmps48
      go_wp2_with fail
      go_ret
      exact ⟨by rw [HF.out]; rfl, rfl⟩
  · have t1 : decide (0 ≤ s) = false := decide_eq_false a
    have HF := Lib.hid (show decide (0 ≤ s ∧ s ≤ 95) = false from decide_eq_false (fun h => a h.1))
    clear a
    go_enter Try.func48, Try.ntmps48
    go_wp2_with fail
    go_ret
    exact ⟨by rw [HF.out]; rfl, rfl⟩
set_option maxRecDepth 100000 in
theorem rquant_any (q : Int) (w : World) : Calls Try.prog 42 #[.int .i64 q] w fun e w' => e = .returned (.bool (decide (-1023 ≤ q ∧ q ≤ 1023))) ∧ w' = w := by
  by_cases a : -1023 ≤ q
  · have t1 : decide (-1023 ≤ q) = true := decide_eq_true a
    by_cases b : q ≤ 1023
    · have t2 : decide (q ≤ 1023) = true := decide_eq_true b
      have HF := Lib.hid (show decide (-1023 ≤ q ∧ q ≤ 1023) = true from decide_eq_true ⟨a, b⟩)
      clear a b
      go_enter Try.func42, Try.ntmps42
      go_wp2_with fail
      go_ret
      exact ⟨by rw [HF.out]; rfl, rfl⟩
    · have t2 : decide (q ≤ 1023) = false := decide_eq_false b
      have HF := Lib.hid (show decide (-1023 ≤ q ∧ q ≤ 1023) = false from decide_eq_false (fun h => b h.2))
      clear a b
      go_enter Try.func42, Try.ntmps42
      go_wp2_with fail
      go_ret
      exact ⟨by rw [HF.out]; rfl, rfl⟩
  · have t1 : decide (-1023 ≤ q) = false := decide_eq_false a
    have HF := Lib.hid (show decide (-1023 ≤ q ∧ q ≤ 1023) = false from decide_eq_false (fun h => a h.1))
    clear a
    go_enter Try.func42, Try.ntmps42
    go_wp2_with fail
    go_ret
    exact ⟨by rw [HF.out]; rfl, rfl⟩
set_option maxRecDepth 100000 in
set_option maxHeartbeats 2000000 in
theorem rpower_any (q : Int) (w : World) (hq : -1023 ≤ q ∧ q ≤ 1023) : Calls Try.prog 43 #[.int .i64 q] w fun e w' => e = .returned (.int .i64 (pwN q.natAbs : Nat)) ∧ w' = w := by
  obtain ⟨n, hn⟩ : ∃ n, q.natAbs = n := ⟨_, rfl⟩
  rw [hn]
  have hn3 : n ≤ 1023 := by omega
  have e4 : 4096 * q * q * q * q = ((4096 * n * n * n * n : Nat) : Int) := by
    rcases Int.natAbs_eq q with h | h
    · rw [hn] at h; rw [h]; simp
    · rw [hn] at h; rw [h]; simp [Int.mul_neg, Int.neg_mul]
  have hb := q4_bd hn3
  have hE := rtE_zero hb
  have HV := Lib.hid (show onOk (rtE ((4096 * n * n * n * n : Nat) : Int)) ((cb ((4096 * n * n * n * n : Nat) : Int).toNat : Nat) : Int) = (pwN n : Nat) by rw [hE]; unfold onOk pwN; rw [if_pos rfl, Int.toNat_natCast])
  obtain ⟨M, hM⟩ : ∃ M : Nat, 4096 * n * n * n * n = M := ⟨_, rfl⟩
  rw [hM] at e4 HV hb hE
  have HCM := Lib.hid (fun W => rCube_any (M : Int) W)
  rw [HV.out, hE] at HCM
  have m1 := mulB (a := 4096) (b := q) (A := 4096) (B := 1023) (by omega) hq
  have m2 := mulB m1 hq
  have m3 := mulB m2 hq
  obtain ⟨a1, ha1⟩ : ∃ a, 4096 * q = a := ⟨_, rfl⟩
  rw [ha1] at e4 m1 m2 m3
  obtain ⟨a2, ha2⟩ : ∃ a, a1 * q = a := ⟨_, rfl⟩
  rw [ha2] at e4 m2 m3
  obtain ⟨a3, ha3⟩ : ∃ a, a2 * q = a := ⟨_, rfl⟩
  rw [ha3] at e4 m3
  have z1 : wrap64 (4096 * q) = a1 := by rw [ha1]; exact IntWalk.wrap64_in _ (by omega)
  have z2 : IntKind.i64.wrap (4096 * q) = a1 := by rw [ha1]; exact IntWalk.i64_in _ (by clear z1; omega)
  have z3 : wrap64 (a1 * q) = a2 := by rw [ha2]; exact IntWalk.wrap64_in _ (by clear z1 z2; omega)
  have z4 : IntKind.i64.wrap (a1 * q) = a2 := by rw [ha2]; exact IntWalk.i64_in _ (by clear z1 z2 z3; omega)
  have z5 : wrap64 (a2 * q) = a3 := by rw [ha3]; exact IntWalk.wrap64_in _ (by clear z1 z2 z3 z4; omega)
  have z6 : IntKind.i64.wrap (a2 * q) = a3 := by rw [ha3]; exact IntWalk.i64_in _ (by clear z1 z2 z3 z4 z5; omega)
  have z7 : wrap64 (a3 * q) = (M : Int) := by rw [e4]; exact IntWalk.wrap64_in _ (by clear z1 z2 z3 z4 z5 z6; omega)
  have z8 : IntKind.i64.wrap (a3 * q) = (M : Int) := by rw [e4]; exact IntWalk.i64_in _ (by clear z1 z2 z3 z4 z5 z6 z7; omega)
  clear hn hn3 e4 hb hE hM m1 m2 m3 ha1 ha2 ha3 hq HV
  generalize pwN n = p at *
  go_enter Try.func43, Try.ntmps43
  go_wp2_with fail
  refine (HCM.out _).mono ?_
  rintro e w1 ⟨rfl, hw⟩
  rw [hw]
  clear hw w1
  go_wp2_with fail
  go_ret
  exact ⟨rfl, rfl⟩
set_option maxRecDepth 100000 in
set_option maxHeartbeats 2000000 in
theorem rstands_any (s q : Nat) (w : World) (hs : s ≤ 95) (hq : q ≤ 1023) : Calls Try.prog 94 #[.int .i64 (pwN q : Nat), .int .i64 (s : Int)] w fun e w' => e = .returned (.int .i64 (vlN s q)) ∧ Upd NoB w w' := by
  obtain ⟨p0, p1⟩ := ps_bd hs hq
  have HS := Lib.hid (fun W => rStep_any (s : Int) W)
  rw [stE_zero hs] at HS
  have HS2 := Lib.hid (fun W => (show Calls Try.prog 122 #[.int .i64 (s : Int)] W fun e w' => e = .returned (.tuple #[.int .i64 (stepN s : Nat), .int .i64 0]) ∧ Upd NoB W w' from HS.out W))
  have HN := Lib.hid (fun W => near_any ((pwN q : Int) * (stepN s : Int)) 256 W (by decide) (by decide) (by omega) (by omega))
  have HV := Lib.hid (show vlN s q = min (rnd ((pwN q : Int) * (stepN s : Int)) 256) 2097152 from rfl)
  rw [HV.out]
  obtain ⟨p, hp⟩ : ∃ p, pwN q = p := ⟨_, rfl⟩
  obtain ⟨t, ht⟩ : ∃ t, stepN s = t := ⟨_, rfl⟩
  rw [hp, ht] at p0 p1 HN ⊢
  rw [ht] at HS2
  obtain ⟨m, hm⟩ : ∃ m, (p : Int) * (t : Int) = m := ⟨_, rfl⟩
  rw [hm] at HN p0 p1 ⊢
  have z1 : wrap64 ((p : Int) * (t : Int)) = m := by rw [hm]; exact IntWalk.wrap64_in _ (by omega)
  have z2 : IntKind.i64.wrap ((p : Int) * (t : Int)) = m := by rw [hm]; exact IntWalk.i64_in _ (by clear z1; omega)
  generalize rnd m 256 = r at *
  clear p0 p1 HS HV hp ht hm hs hq
  go_enter Try.func94, Try.ntmps94
  go_wp2_with fail
  refine (HS2.out _).mono ?_
  rintro e w1 ⟨rfl, u1⟩
  have U1 := Lib.hid u1
  clear u1
  go_wp2_with fail
  refine (HN.out _).mono ?_
  rintro e w2 ⟨rfl, hw⟩
  rw [hw]
  clear hw w2
  go_wp2_with fail
  go_ret
  exact ⟨by first | rfl | (rw [Int.min_comm]; rfl), U1.out⟩
set_option maxRecDepth 100000 in
set_option maxHeartbeats 2000000 in
theorem rvalue_any (q : Int) (s : Nat) (w : World) (hs : s ≤ 95) (hq : -1023 ≤ q ∧ q ≤ 1023) : Calls Try.prog 49 #[.int .i64 q, .int .i64 (s : Int)] w fun e w' => e = .returned (.int .i64 (sgV s q)) ∧ Upd NoB w w' := by
  have HP := Lib.hid (fun W => rpower_any q W hq)
  have HS := Lib.hid (fun W => rstands_any s q.natAbs W hs (by omega))
  have hv := vlN_in hs (show q.natAbs ≤ 1023 by omega)
  have HR := Lib.hid (show sgV s q = if q < 0 then -(vlN s q.natAbs) else vlN s q.natAbs from rfl)
  generalize sgV s q = R at *
  generalize vlN s q.natAbs = v at *
  generalize pwN q.natAbs = p at *
  have z1 : wrap64 (-v) = -v := IntWalk.wrap64_in _ (by omega)
  have z2 : IntKind.i64.wrap (-v) = -v := IntWalk.i64_in _ (by clear z1; omega)
  by_cases hneg : q < 0
  · have t1 : decide (q < 0) = true := decide_eq_true hneg
    have HE := Lib.hid (HR.out.trans (if_pos hneg))
    clear hv HR hneg hq hs
    go_enter Try.func49, Try.ntmps49
    go_wp2_with fail
    refine (HP.out _).mono ?_
    rintro e w1 ⟨rfl, hw⟩
    rw [hw]
    clear hw w1
    go_wp2_with fail
    refine (HS.out _).mono ?_
    rintro e w2 ⟨rfl, u2⟩
    have U2 := Lib.hid u2
    clear u2
    go_wp2_with fail
    go_ret
    exact ⟨by rw [HE.out]; rfl, U2.out⟩
  · have t1 : decide (q < 0) = false := decide_eq_false hneg
    have HE := Lib.hid (HR.out.trans (if_neg hneg))
    clear hv HR hneg hq hs
    go_enter Try.func49, Try.ntmps49
    go_wp2_with fail
    refine (HP.out _).mono ?_
    rintro e w1 ⟨rfl, hw⟩
    rw [hw]
    clear hw w1
    go_wp2_with fail
    refine (HS.out _).mono ?_
    rintro e w2 ⟨rfl, u2⟩
    have U2 := Lib.hid u2
    clear u2
    go_wp2_with fail
    go_ret
    exact ⟨by rw [HE.out]; rfl, U2.out⟩
set_option maxRecDepth 100000 in
theorem rPowerX_any (q : Int) (w : World) : Calls Try.prog 14 #[.int .i64 q] w fun e w' => e = .returned (.tuple #[.int .i64 (if pwE q = 0 then ((pwN q.natAbs : Nat) : Int) else 0), .int .i64 (pwE q)]) ∧ w' = w := by
  have HW := Lib.hid (rquant_any q w)
  by_cases h : -1023 ≤ q ∧ q ≤ 1023
  · have hE : pwE q = 0 := if_pos h
    have HP := Lib.hid (fun W => rpower_any q W h)
    rw [hE, if_pos rfl]
    rw [decide_eq_true h] at HW
    generalize pwN q.natAbs = p at *
    clear h hE
    go_enter Try.func14, Try.ntmps14
    go_wp2_with fail
    refine HW.out.mono ?_
    rintro e w1 ⟨rfl, hw1⟩
    rw [hw1]
    clear hw1
    go_wp2_with fail
    refine (HP.out _).mono ?_
    rintro e w2 ⟨rfl, hw2⟩
    rw [hw2]
    clear hw2
    go_wp2_with fail
    go_ret2
    exact ⟨rfl, rfl⟩
  · have hE : pwE q = 6 := if_neg h
    rw [hE, if_neg (by decide)]
    rw [decide_eq_false h] at HW
    clear h hE
    go_enter Try.func14, Try.ntmps14
    go_wp2_with fail
    refine HW.out.mono ?_
    rintro e w1 ⟨rfl, rfl⟩
    go_wp2_with fail
    go_ret2
    exact ⟨rfl, rfl⟩
set_option maxRecDepth 100000 in
set_option maxHeartbeats 2000000 in
theorem rValueX_any (q s : Int) (w : World) : Calls Try.prog 16 #[.int .i64 q, .int .i64 s] w fun e w' => e = .returned (.tuple #[.int .i64 (Va q s), .int .i64 (eV q s)]) ∧ Upd NoB w w' := by
  have HS := Lib.hid (rScale_any s w)
  have HI := Lib.hid (rquant_any q w)
  by_cases h1 : 0 ≤ s ∧ s ≤ 95
  · rw [decide_eq_true h1] at HS
    by_cases h2 : -1023 ≤ q ∧ q ≤ 1023
    · rw [decide_eq_true h2] at HI
      have hE : eV q s = 0 := by unfold eV; rw [if_pos h1, if_pos h2]
      have hV : Va q s = sgV s.toNat q := if_pos hE
      rw [hE, hV]
      obtain ⟨n, rfl⟩ : ∃ n : Nat, s = (n : Int) := ⟨s.toNat, by omega⟩
      rw [Int.toNat_natCast]
      have HV := Lib.hid (fun W => rvalue_any q n W (by omega) h2)
      generalize sgV n q = R at *
      clear h1 h2 hE hV
      go_enter Try.func16, Try.ntmps16
      go_wp2_with fail
      refine HS.out.mono ?_
      rintro e w1 ⟨rfl, hw1⟩
      rw [hw1]
      clear hw1 w1
      go_wp2_with fail
      refine HI.out.mono ?_
      rintro e w1 ⟨rfl, hw1⟩
      rw [hw1]
      clear hw1 w1
      go_wp2_with fail
      refine (HV.out _).mono ?_
      rintro e w2 ⟨rfl, u2⟩
      have U2 := Lib.hid u2
      clear u2
      go_wp2_with fail
      go_ret2
      exact ⟨rfl, U2.out⟩
    · rw [decide_eq_false h2] at HI
      have hE : eV q s = 6 := by unfold eV; rw [if_pos h1, if_neg h2]
      have hV : Va q s = 0 := if_neg (by rw [hE]; decide)
      rw [hE, hV]
      clear h1 h2 hE hV
      go_enter Try.func16, Try.ntmps16
      go_wp2_with fail
      refine HS.out.mono ?_
      rintro e w1 ⟨rfl, hw1⟩
      rw [hw1]
      clear hw1 w1
      go_wp2_with fail
      refine HI.out.mono ?_
      rintro e w1 ⟨rfl, rfl⟩
      go_wp2_with fail
      go_ret2
      exact ⟨rfl, Upd.refl _ _⟩
  · rw [decide_eq_false h1] at HS
    have hE : eV q s = 1 := by unfold eV; rw [if_neg h1]
    have hV : Va q s = 0 := if_neg (by rw [hE]; decide)
    rw [hE, hV]
    clear h1 hE hV HI
    go_enter Try.func16, Try.ntmps16
    go_wp2_with fail
    refine HS.out.mono ?_
    rintro e w1 ⟨rfl, rfl⟩
    go_wp2_with fail
    go_ret2
    exact ⟨rfl, Upd.refl _ _⟩
def powL (k : Nat) : List Int := (List.range k).map fun q => ((pwN q : Nat) : Int)
def valL (s k : Nat) : List Int := (List.range k).map fun q => vlN s q
theorem powL_succ (k : Nat) : powL (k + 1) = powL k ++ [((pwN k : Nat) : Int)] := by simp [powL, List.range_succ]
theorem valL_succ (s k : Nat) : valL s (k + 1) = valL s k ++ [vlN s k] := by simp [valL, List.range_succ]
theorem powL_len (k : Nat) : (powL k).length = k := by simp [powL]
theorem valL_len (s k : Nat) : (valL s k).length = k := by simp [valL]
theorem powL_get {k q : Nat} (h : q < k) : (powL k)[q]? = some ((pwN q : Nat) : Int) := by simp [powL, h]
theorem valL_get {s k q : Nat} (h : q < k) : (valL s k)[q]? = some (vlN s q) := by simp [valL, h]
set_option maxRecDepth 100000 in
set_option maxHeartbeats 2000000 in
theorem rPowers_any (w : World) : Calls Try.prog 57 #[] w fun e w' => ∃ a c, e = .returned (.slice a 1024 c) ∧ Ints w' (.slice a 1024 c) (powL 1024) ∧ Upd NoB w w' := by
  have HP := Lib.hid (fun (q : Nat) (hq : q ≤ 1023) W => (show Calls Try.prog 43 #[.int .i64 (q : Int)] W fun e w' => e = .returned (.int .i64 (pwN q : Nat)) ∧ w' = W by have := rpower_any (q : Int) W (by omega); rw [Int.natAbs_natCast] at this; exact this))
  have HT := Lib.hid powL_succ
  have H0 := Lib.hid (show powL 0 = [] from rfl)
  go_enter Try.func57, Try.ntmps57
  go_wp2_with fail
  go_loopw [1, 3] (fun v i wr => ∃ k : Nat, k ≤ 1024 ∧ i = .int .i64 k ∧ wr.ownsRow w.heap.size 3 1 v k (i64s (powL k)) ∧ Upd NoB w wr) (fun _ i _ => 1024 - (intOf i).toNat)
  case atStart => exact ⟨0, Nat.zero_le _, rfl, by rw [H0.out]; exact World.ownsRow_nil _ _ _ _, Upd.refl _ _⟩
  case round =>
    obtain ⟨k, hk, rfl, hown, hu⟩ := hrel
    obtain ⟨va, vc, rfl⟩ := row_form hown
    have HOw := Lib.hid hown; have HU := Lib.hid hu
    by_cases hlt : k < 1024
    · have HPk := Lib.hid (HP.out k (by omega) wr)
      have HTk := Lib.hid (HT.out k)
      have hb2 := hu.size
      generalize powL k = ys at *
      generalize pwN k = y at *
      have hk6 : k ≤ 1000000 := by omega
      clear hown hu
      go_wp2_with fail
      refine HPk.out.mono ?_
      rintro r w2 ⟨rfl, hw2⟩
      rw [hw2]
      clear hw2 w2
      go_wp2_with (at_builtin; refine wpList_push rfl (.tmp 6) (.tmp 9) rfl w.heap.size (.slice va k vc) k ys (y : Nat) rfl rfl HOw.out hk6 hb2 ?_; intro v' w' hown' u'; have R' := Lib.hid hown'; have U' := Lib.hid u'; clear hown' u')
      go_roundw
      case rel => exact ⟨k + 1, by omega, by go_num, by rw [HTk.out]; exact R'.out, upd_ge ((upd_ge' HU.out w.heap.size).trans U'.out (fun _ _ h => h))⟩
      case measure => simp [intOf]; omega
    · obtain rfl : k = 1024 := by omega
      clear hlt hown hu
      go_wp2_with fail
      go_ret
      refine ⟨_, _, rfl, ?_, HU.out⟩
      have := Ints.ofRow (xs := powL 1024) (w := wr) (base := w.heap.size) (v := .slice va 1024 vc) (by rw [powL_len]; exact HOw.out) (by rw [powL_len]; omega)
      exact this
set_option maxRecDepth 100000 in
set_option maxHeartbeats 2000000 in
theorem rvalues_any (pv : Value) (s : Nat) (g : Int) (w : World) (hs : s ≤ 95) (h : Ints w pv (powL 1024)) : Calls Try.prog 98 #[pv, .int .i64 (s : Int), .int .i64 g] w fun e w' => ∃ a c, e = .returned (.slice a (fsN s g + 1) c) ∧ Ints w' (.slice a (fsN s g + 1) c) (valL s (fsN s g + 1)) ∧ Upd NoB w w' := by
  have HP := Lib.hid (fun (q : Nat) (hq : q ≤ 1023) W => rstands_any s q W hs hq)
  have HT := Lib.hid (valL_succ s)
  have H0 := Lib.hid (show valL s 0 = [] from rfl)
  have HX := Lib.hid h
  have HG := Lib.hid (fun (k : Nat) (hk : k < 1024) => powL_get (k := 1024) hk)
  have HIs := Lib.hid (fun (r : Nat) (a : r ≤ 1023) b c => fsN_is (s := s) (c := g) (r := r) a b c)
  have HLe := Lib.hid (fsN_le s g)
  obtain ⟨pa, pc, rfl⟩ := h.form
  rw [powL_len] at HX ⊢
  generalize fsN s g = F at *
  generalize powL 1024 = P at *
  clear h hs
  go_enter Try.func98, Try.ntmps98
  go_wp2_with fail
  go_loopw [7, 13] (fun v i wr => ∃ k : Nat, k ≤ 1024 ∧ i = .int .i64 k ∧ (∀ j, j < k → vlN s j < g) ∧ wr.ownsRow w.heap.size 3 1 v k (i64s (valL s k)) ∧ Upd NoB w wr) (fun _ i _ => 1024 - (intOf i).toNat)
  case atStart => exact ⟨0, Nat.zero_le _, rfl, fun j hj => by omega, by rw [H0.out]; exact World.ownsRow_nil _ _ _ _, Upd.refl _ _⟩
  case round =>
    obtain ⟨k, hk, rfl, hlo, hown, hu⟩ := hrel
    obtain ⟨va, vc, rfl⟩ := row_form hown
    have HOw := Lib.hid hown; have HU := Lib.hid hu; have HLo := Lib.hid hlo
    by_cases hlt : k < 1024
    · have HPk := Lib.hid (fun W => HP.out k (by omega) W)
      have HTk := Lib.hid (HT.out k)
      obtain ⟨b, off, rfl, c0⟩ := (HX.out.later hu).cellAt (HG.out k hlt)
      have hb2 := hu.size
      have hk6 : k ≤ 1000000 := by omega
      have HYes := Lib.hid (fun (hy : g ≤ vlN s k) => HIs.out k (by omega) hlo (fun _ => hy))
      have HNo := Lib.hid (fun (hy : vlN s k < g) j (hj : j < k + 1) => (show vlN s j < g by
        by_cases e : j = k
        · rw [e]; exact hy
        · exact hlo j (by omega)))
      have HVL := Lib.hid (valL_len s (k + 1))
      generalize valL s k = ys at *
      generalize pwN k = p at *
      generalize vlN s k = y at *
      clear hown hu hlo
      go_wp2_with fail
      refine (HPk.out _).mono ?_
      rintro r w2 ⟨rfl, u2⟩
      have U2 := Lib.hid (HU.out.then u2)
      have HO2 := Lib.hid (u2.row HOw.out (fun k _ => noB k))
      have hb3 := U2.out.size
      clear u2 hb2
      by_cases hy : g ≤ y
      · have t1 : decide (g ≤ y) = true := decide_eq_true hy
        have HR := Lib.hid (HYes.out hy)
        clear hy
        go_wp2_with (at_builtin; refine wpList_push rfl (.tmp 20) (.tmp 22) rfl w.heap.size (.slice va k vc) k ys y rfl rfl HO2.out hk6 hb3 ?_; intro v' w' hown' u'; obtain ⟨va', vc', rfl⟩ := row_form hown'; have R' := Lib.hid hown'; have U' := Lib.hid u'; clear hown' u')
        go_ret
        rw [HR.out]
        refine ⟨_, _, rfl, ?_, upd_ge ((upd_ge' U2.out w.heap.size).trans U'.out (fun _ _ h => h))⟩
        have h9 := R'.out
        rw [← HTk.out] at h9
        have := Ints.ofRow (xs := valL s (k + 1)) (w := w') (base := w.heap.size) (v := .slice va' (k + 1) vc') (by rw [HVL.out]; exact h9) (by rw [HVL.out]; omega)
        exact this
      · have t1 : decide (g ≤ y) = false := decide_eq_false hy
        have HN := Lib.hid (HNo.out (by omega))
        clear hy
        go_wp2_with (at_builtin; refine wpList_push rfl (.tmp 20) (.tmp 22) rfl w.heap.size (.slice va k vc) k ys y rfl rfl HO2.out hk6 hb3 ?_; intro v' w' hown' u'; obtain ⟨va', vc', rfl⟩ := row_form hown'; have R' := Lib.hid hown'; have U' := Lib.hid u'; clear hown' u')
        go_roundw
        case rel => exact ⟨k + 1, by omega, by go_num, HN.out, by rw [HTk.out]; exact R'.out, upd_ge ((upd_ge' U2.out w.heap.size).trans U'.out (fun _ _ h => h))⟩
        case measure => simp [intOf]; omega
    · obtain rfl : k = 1024 := by omega
      have HR := Lib.hid (HIs.out 1023 (by omega) (fun j hj => hlo j (by omega)) (fun h => by omega))
      clear hlt hown hu hlo
      go_wp2_with fail
      go_ret
      rw [HR.out]
      refine ⟨_, _, rfl, ?_, HU.out⟩
      have := Ints.ofRow (xs := valL s 1024) (w := wr) (base := w.heap.size) (v := .slice va 1024 vc) (by rw [valL_len]; exact HOw.out) (by rw [valL_len]; omega)
      exact this
end Go.Proofs.Yteioaeceobgbdaa
