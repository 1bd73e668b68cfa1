/- quant: odd, Value, Quantum -/
import Derived.Test.YteioaeceobgbdaaQE
namespace Go.Proofs.Yteioaeceobgbdaa
open Go.RowKit Go.Shelf

theorem qtN_le (s : Nat) (c : Int) : qtN s c ≤ 1023 := by
  have := fsN_le s c
  unfold qtN
  split <;> omega
def lad (s b : Nat) : Value := .agg #[.int .i64 (s : Int), .int .i64 (stepN s : Nat), .pointer (some ⟨b, 0, none⟩)]
/-- the value of a quantum, the quantum of a coefficient -/
def sgV (s : Nat) (q : Int) : Int := if q < 0 then -(vlN s q.natAbs) else vlN s q.natAbs
def sgQ (s : Nat) (c : Int) : Int := if c < 0 then -((qtN s (c.natAbs : Nat) : Nat) : Int) else (qtN s (c.natAbs : Nat) : Nat)
set_option maxRecDepth 100000 in
theorem odd_any (fid : Nat) (l : Value) (w : World) : Calls Try.prog 45 #[.func (.func fid) #[l] #[]] w fun e w' => e = .returned (.func (.func 91) #[] #[.pointer (some ⟨w.heap.size, 0, none⟩)]) ∧ w' = w.alloc (.cells #[.func (.func fid) #[l] #[]] 51) := by
  go_enter Try.func45, Try.ntmps45
  go_wp2_with fail
  go_ret
  exact ⟨rfl, rfl⟩
set_option maxRecDepth 100000 in
set_option maxHeartbeats 2000000 in
theorem odd1V_any (s b B : Nat) (q : Int) (w : World) (h : Memo w b) (hs : s ≤ 95) (hq : -1023 ≤ q ∧ q ≤ 1023) (hc : w.cell? ⟨B, 0, none⟩ = some (.func (.func 47) #[lad s b] #[])) :
    Calls Try.prog 91 #[.int .i64 q, .pointer (some ⟨B, 0, none⟩)] w fun e w' => e = .returned (.int .i64 (sgV s q)) ∧ Memo w' b ∧ Upd (fun k => k = b) w w' := by
  obtain ⟨n, hn⟩ : ∃ n, q.natAbs = n := ⟨_, rfl⟩
  have hn2 : n ≤ 1023 := by omega
  have HV := Lib.hid (fun W (h : Memo W b) => value_any (s : Int) s b n W h hs (by omega))
  have HR := Lib.hid (show sgV s q = if q < 0 then -(vlN s n) else vlN s n by unfold sgV; rw [hn])
  obtain ⟨b0, b1⟩ := vlN_in hs (show n ≤ 1023 by omega)
  have HM := Lib.hid h
  generalize sgV s q = R at *
  generalize vlN s n = v at *
  unfold lad at hc
  generalize stepN s = t at *
  have z1 : wrap64 (-v) = -v := IntWalk.wrap64_in _ (by omega)
  have z2 : IntKind.i64.wrap (-v) = -v := IntWalk.i64_in _ (by clear z1; omega)
  by_cases hneg : q < 0
  · have t1 : decide (q < 0) = true := decide_eq_true hneg
    have z3 : wrap64 (-q) = (n : Int) := by rw [show -q = (n : Int) by clear z1 z2; omega]; exact IntWalk.wrap64_in _ (by clear z1 z2; omega)
    have z4 : IntKind.i64.wrap (-q) = (n : Int) := by rw [show -q = (n : Int) by clear z1 z2 z3; omega]; exact IntWalk.i64_in _ (by clear z1 z2 z3; omega)
    have HE := Lib.hid (HR.out.trans (if_pos hneg))
    clear h hs hq hn hn2 hneg b0 b1 HR
    go_enter Try.func91, Try.ntmps91
    go_wp2_with fail
    refine (HV.out _ HM.out).mono ?_
    rintro e w2 ⟨rfl, m2, u2⟩
    have M2 := Lib.hid m2; have U2 := Lib.hid u2
    clear m2 u2
    go_wp2_with fail
    go_ret
    exact ⟨by rw [HE.out]; rfl, M2.out, U2.out⟩
  · have t1 : decide (q < 0) = false := decide_eq_false hneg
    obtain rfl : q = (n : Int) := by clear z1 z2; omega
    have HE := Lib.hid (HR.out.trans (if_neg hneg))
    clear h hs hq hn hn2 hneg b0 b1 HR
    go_enter Try.func91, Try.ntmps91
    go_wp2_with fail
    refine (HV.out _ HM.out).mono ?_
    rintro e w2 ⟨rfl, m2, u2⟩
    have M2 := Lib.hid m2; have U2 := Lib.hid u2
    clear m2 u2
    go_wp2_with fail
    go_ret
    exact ⟨by rw [HE.out]; rfl, M2.out, U2.out⟩
def eV (q s : Int) : Int := if 0 ≤ s ∧ s ≤ 95 then (if -1023 ≤ q ∧ q ≤ 1023 then 0 else 6) else 1
set_option maxRecDepth 100000 in
set_option maxHeartbeats 2000000 in
theorem pV_any (q s : Int) (w : World) : Calls Try.prog 15 #[.int .i64 q, .int .i64 s] w fun e w' => e = .returned (.tuple #[.int .i64 (if eV q s = 0 then sgV s.toNat q else 0), .int .i64 (eV q s)]) ∧ Upd NoB w w' := by
  have HS := Lib.hid (isScale_any s w)
  have HI := Lib.hid (isWithin_any q 1023 w (by decide) (by decide))
  by_cases h1 : 0 ≤ s ∧ s ≤ 95
  · rw [decide_eq_true h1] at HS
    by_cases h2 : -1023 ≤ q ∧ q ≤ 1023
    · rw [decide_eq_true h2] at HI
      have hE : eV q s = 0 := by unfold eV; rw [if_pos h1, if_pos h2]
      rw [hE, if_pos rfl]
      obtain ⟨n, rfl⟩ : ∃ n : Nat, s = (n : Int) := ⟨s.toNat, by omega⟩
      rw [Int.toNat_natCast]
      have hn : n ≤ 95 := by omega
      have HL := Lib.hid (ladderOf_any n w hn)
      have HO := Lib.hid (fun b B W (h : Memo W b) hc => odd1V_any n b B q W h hn h2 hc)
      generalize sgV n q = R at *
      clear h1 h2 hE hn
      go_enter Try.func15, Try.ntmps15
      go_wp2_with fail
      refine HS.out.mono ?_
      rintro e w1 ⟨rfl, hw1⟩
      rw [hw1]
      clear hw1 w1
      go_wp2_with fail
      refine HI.out.mono ?_
      rintro e w1 ⟨rfl, hw1⟩
      rw [hw1]
      clear hw1 w1
      go_wp2_with fail
      refine HL.out.mono ?_
      rintro e w2 ⟨b, rfl, hb, m2, u2⟩
      have M2 := Lib.hid m2; have U2 := Lib.hid u2; have HB := Lib.hid hb
      clear m2 u2 hb
      go_wp2_with fail
      refine (odd_any _ _ _).mono ?_
      rintro e w3 ⟨rfl, hw3⟩
      have hc := heap_alloc_new w2 (.cells #[.func (.func 47) #[lad n b] #[]] 51)
      have u3 : Upd NoB w2 w3 := by rw [hw3]; exact (Upd.refl _ _).alloc _
      have hc2 : w3.cell? ⟨w2.heap.size, 0, none⟩ = some (.func (.func 47) #[lad n b] #[]) := by rw [hw3]; exact blk_cell hc 0
      have HC := Lib.hid (HO.out b w2.heap.size w3 (M2.out.later u3) hc2)
      have U3 := Lib.hid (U2.out.then u3)
      clear hw3 hc u3 hc2
      go_wp2_with fail
      refine HC.out.mono ?_
      rintro e w4 ⟨rfl, m4, u4⟩
      have U4 := Lib.hid (U3.out.trans u4 (fun j hj e => by have := HB.out; have e : j = b := e; omega))
      clear m4 u4
      go_wp2_with fail
      go_ret2
      exact ⟨rfl, U4.out⟩
    · rw [decide_eq_false h2] at HI
      have hE : eV q s = 6 := by unfold eV; rw [if_pos h1, if_neg h2]
      rw [hE, if_neg (by decide)]
      clear h1 h2 hE
      go_enter Try.func15, Try.ntmps15
      go_wp2_with fail
      refine HS.out.mono ?_
      rintro e w1 ⟨rfl, hw1⟩
      rw [hw1]
      clear hw1 w1
      go_wp2_with fail
      refine HI.out.mono ?_
      rintro e w1 ⟨rfl, rfl⟩
      go_wp2_with fail
      go_ret2
      exact ⟨rfl, Upd.refl _ _⟩
  · rw [decide_eq_false h1] at HS
    have hE : eV q s = 1 := by unfold eV; rw [if_neg h1]
    rw [hE, if_neg (by decide)]
    clear h1 hE HI
    go_enter Try.func15, Try.ntmps15
    go_wp2_with fail
    refine HS.out.mono ?_
    rintro e w1 ⟨rfl, rfl⟩
    go_wp2_with fail
    go_ret2
    exact ⟨rfl, Upd.refl _ _⟩
set_option maxRecDepth 100000 in
set_option maxHeartbeats 2000000 in
theorem odd1Q_any (s b B : Nat) (q : Int) (w : World) (h : Memo w b) (hs : s ≤ 95) (hq : -2097152 ≤ q ∧ q ≤ 2097152) (hc : w.cell? ⟨B, 0, none⟩ = some (.func (.func 50) #[lad s b] #[])) :
    Calls Try.prog 91 #[.int .i64 q, .pointer (some ⟨B, 0, none⟩)] w fun e w' => e = .returned (.int .i64 (sgQ s q)) ∧ Memo w' b ∧ Upd (fun k => k = b) w w' := by
  obtain ⟨n, hn⟩ : ∃ n, q.natAbs = n := ⟨_, rfl⟩
  have hn2 : n ≤ 2097152 := by omega
  have HV := Lib.hid (fun W (h : Memo W b) => quantum_any (s : Int) s b (n : Int) W h hs (by omega))
  have HR := Lib.hid (show sgQ s q = if q < 0 then -(((qtN s (n : Int) : Nat) : Int)) else ((qtN s (n : Int) : Nat) : Int) by unfold sgQ; rw [hn])
  obtain ⟨b0, b1⟩ := (show 0 ≤ ((qtN s (n : Int) : Nat) : Int) ∧ ((qtN s (n : Int) : Nat) : Int) ≤ 2097152 by have := qtN_le s (n : Int); omega)
  have HM := Lib.hid h
  generalize sgQ s q = R at *
  generalize ((qtN s (n : Int) : Nat) : Int) = v at *
  unfold lad at hc
  generalize stepN s = t at *
  have z1 : wrap64 (-v) = -v := IntWalk.wrap64_in _ (by omega)
  have z2 : IntKind.i64.wrap (-v) = -v := IntWalk.i64_in _ (by clear z1; omega)
  by_cases hneg : q < 0
  · have t1 : decide (q < 0) = true := decide_eq_true hneg
    have z3 : wrap64 (-q) = (n : Int) := by rw [show -q = (n : Int) by clear z1 z2; omega]; exact IntWalk.wrap64_in _ (by clear z1 z2; omega)
    have z4 : IntKind.i64.wrap (-q) = (n : Int) := by rw [show -q = (n : Int) by clear z1 z2 z3; omega]; exact IntWalk.i64_in _ (by clear z1 z2 z3; omega)
    have HE := Lib.hid (HR.out.trans (if_pos hneg))
    clear h hs hq hn hn2 hneg b0 b1 HR
    go_enter Try.func91, Try.ntmps91
    go_wp2_with fail
    refine (HV.out _ HM.out).mono ?_
    rintro e w2 ⟨rfl, m2, u2⟩
    have M2 := Lib.hid m2; have U2 := Lib.hid u2
    clear m2 u2
    go_wp2_with fail
    go_ret
    exact ⟨by rw [HE.out]; rfl, M2.out, U2.out⟩
  · have t1 : decide (q < 0) = false := decide_eq_false hneg
    obtain rfl : q = (n : Int) := by clear z1 z2; omega
    have HE := Lib.hid (HR.out.trans (if_neg hneg))
    clear h hs hq hn hn2 hneg b0 b1 HR
    go_enter Try.func91, Try.ntmps91
    go_wp2_with fail
    refine (HV.out _ HM.out).mono ?_
    rintro e w2 ⟨rfl, m2, u2⟩
    have M2 := Lib.hid m2; have U2 := Lib.hid u2
    clear m2 u2
    go_wp2_with fail
    go_ret
    exact ⟨by rw [HE.out]; rfl, M2.out, U2.out⟩
def eQ (q s : Int) : Int := if 0 ≤ s ∧ s ≤ 95 then (if -2097152 ≤ q ∧ q ≤ 2097152 then 0 else 6) else 1
set_option maxRecDepth 100000 in
set_option maxHeartbeats 2000000 in
theorem pQ_any (q s : Int) (w : World) : Calls Try.prog 17 #[.int .i64 q, .int .i64 s] w fun e w' => e = .returned (.tuple #[.int .i64 (if eQ q s = 0 then sgQ s.toNat q else 0), .int .i64 (eQ q s)]) ∧ Upd NoB w w' := by
  have HS := Lib.hid (isScale_any s w)
  have HI := Lib.hid (isWithin_any q 2097152 w (by decide) (by decide))
  by_cases h1 : 0 ≤ s ∧ s ≤ 95
  · rw [decide_eq_true h1] at HS
    by_cases h2 : -2097152 ≤ q ∧ q ≤ 2097152
    · rw [decide_eq_true h2] at HI
      have hE : eQ q s = 0 := by unfold eQ; rw [if_pos h1, if_pos h2]
      rw [hE, if_pos rfl]
      obtain ⟨n, rfl⟩ : ∃ n : Nat, s = (n : Int) := ⟨s.toNat, by omega⟩
      rw [Int.toNat_natCast]
      have hn : n ≤ 95 := by omega
      have HL := Lib.hid (ladderOf_any n w hn)
      have HO := Lib.hid (fun b B W (h : Memo W b) hc => odd1Q_any n b B q W h hn h2 hc)
      generalize sgQ n q = R at *
      clear h1 h2 hE hn
      go_enter Try.func17, Try.ntmps17
      go_wp2_with fail
      refine HS.out.mono ?_
      rintro e w1 ⟨rfl, hw1⟩
      rw [hw1]
      clear hw1 w1
      go_wp2_with fail
      refine HI.out.mono ?_
      rintro e w1 ⟨rfl, hw1⟩
      rw [hw1]
      clear hw1 w1
      go_wp2_with fail
      refine HL.out.mono ?_
      rintro e w2 ⟨b, rfl, hb, m2, u2⟩
      have M2 := Lib.hid m2; have U2 := Lib.hid u2; have HB := Lib.hid hb
      clear m2 u2 hb
      go_wp2_with fail
      refine (odd_any _ _ _).mono ?_
      rintro e w3 ⟨rfl, hw3⟩
      have hc := heap_alloc_new w2 (.cells #[.func (.func 50) #[lad n b] #[]] 51)
      have u3 : Upd NoB w2 w3 := by rw [hw3]; exact (Upd.refl _ _).alloc _
      have hc2 : w3.cell? ⟨w2.heap.size, 0, none⟩ = some (.func (.func 50) #[lad n b] #[]) := by rw [hw3]; exact blk_cell hc 0
      have HC := Lib.hid (HO.out b w2.heap.size w3 (M2.out.later u3) hc2)
      have U3 := Lib.hid (U2.out.then u3)
      clear hw3 hc u3 hc2
      go_wp2_with fail
      refine HC.out.mono ?_
      rintro e w4 ⟨rfl, m4, u4⟩
      have U4 := Lib.hid (U3.out.trans u4 (fun j hj e => by have := HB.out; have e : j = b := e; omega))
      clear m4 u4
      go_wp2_with fail
      go_ret2
      exact ⟨rfl, U4.out⟩
    · rw [decide_eq_false h2] at HI
      have hE : eQ q s = 6 := by unfold eQ; rw [if_pos h1, if_neg h2]
      rw [hE, if_neg (by decide)]
      clear h1 h2 hE
      go_enter Try.func17, Try.ntmps17
      go_wp2_with fail
      refine HS.out.mono ?_
      rintro e w1 ⟨rfl, hw1⟩
      rw [hw1]
      clear hw1 w1
      go_wp2_with fail
      refine HI.out.mono ?_
      rintro e w1 ⟨rfl, rfl⟩
      go_wp2_with fail
      go_ret2
      exact ⟨rfl, Upd.refl _ _⟩
  · rw [decide_eq_false h1] at HS
    have hE : eQ q s = 1 := by unfold eQ; rw [if_neg h1]
    rw [hE, if_neg (by decide)]
    clear h1 hE HI
    go_enter Try.func17, Try.ntmps17
    go_wp2_with fail
    refine HS.out.mono ?_
    rintro e w1 ⟨rfl, rfl⟩
    go_wp2_with fail
    go_ret2
    exact ⟨rfl, Upd.refl _ _⟩
end Go.Proofs.Yteioaeceobgbdaa
