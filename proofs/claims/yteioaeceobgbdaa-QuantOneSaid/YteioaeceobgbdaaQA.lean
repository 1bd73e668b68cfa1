/- quant: powers and values in mathematics; isWithin, isScale, power, Power, the powers in memory, a ladder's value -/
import Derived.Test.YteioaeceobgbdaaFO
import Derived.Test.YteioaeceobgbdaaInt
import Derived.Lib.MinMax
import Derived.BigQuiet
import Derived.Deep.RegionWith
namespace Go.Proofs.Yteioaeceobgbdaa
open Go.RowKit Go.Shelf

def pwN (q : Nat) : Nat := cb (4096 * q * q * q * q)
theorem q4_le {a b : Nat} (h : a ≤ b) : 4096 * a * a * a * a ≤ 4096 * b * b * b * b := Nat.mul_le_mul (Nat.mul_le_mul (Nat.mul_le_mul (Nat.mul_le_mul_left _ h) h) h) h
theorem q4_bd {q : Nat} (h : q ≤ 1023) : 4096 * q * q * q * q ≤ 4486033194356736 := by
  have := q4_le h
  omega
theorem pwN_mono {a b : Nat} (h : a ≤ b) (hb : b ≤ 1023) : pwN a ≤ pwN b := cb_mono (q4_le h) (by have := q4_bd hb; omega)
theorem pwN_zero : pwN 0 = 0 := by decide +kernel
theorem pwN_one : pwN 1 = 16 := by decide +kernel
theorem pwN_top : pwN 1023 ≤ 165000 := by decide +kernel
theorem pwN_pos {q : Nat} (h : 0 < q) (hq : q ≤ 1023) : 0 < pwN q := by
  have := pwN_mono (a := 1) (b := q) (by omega) hq
  rw [pwN_one] at this
  omega
theorem pwN_le {q : Nat} (h : q ≤ 1023) : pwN q ≤ 165000 := Nat.le_trans (pwN_mono h (Nat.le_refl _)) pwN_top
theorem stepN_top : stepN 95 ≤ 225738752 := by decide +kernel
theorem stepN_le {s : Nat} (h : s ≤ 95) : stepN s ≤ 225738752 := Nat.le_trans (stepN_mono h (by omega)) stepN_top
/-- the value of a quantum from 0 on -/
def vlN (s q : Nat) : Int := min (rnd ((pwN q : Int) * (stepN s : Int)) 256) 2097152
theorem ps_bd {s q : Nat} (hs : s ≤ 95) (hq : q ≤ 1023) : 0 ≤ (pwN q : Int) * (stepN s : Int) ∧ (pwN q : Int) * (stepN s : Int) ≤ 37246894080000 := by
  have h1 := pwN_le hq
  have h2 := stepN_le hs
  have h3 := Nat.mul_le_mul h1 h2
  have e : (pwN q : Int) * (stepN s : Int) = ((pwN q * stepN s : Nat) : Int) := by simp
  rw [e]
  generalize pwN q * stepN s = x at *
  omega
theorem rnd_mono {a b n : Int} (h : a ≤ b) (hn : 0 < n) : rnd a n ≤ rnd b n := Int.ediv_le_ediv (by omega) (by omega)
theorem vlN_mono {s a b : Nat} (_hs : s ≤ 95) (h : a ≤ b) (hb : b ≤ 1023) : vlN s a ≤ vlN s b := by
  have h1 := Nat.mul_le_mul_right (stepN s) (pwN_mono h hb)
  have h2 := rnd_mono (a := (pwN a : Int) * (stepN s : Int)) (b := (pwN b : Int) * (stepN s : Int)) (n := 256) (by
    have e : ∀ q, (pwN q : Int) * (stepN s : Int) = ((pwN q * stepN s : Nat) : Int) := fun q => by simp
    rw [e, e]
    omega) (by decide)
  unfold vlN
  omega
theorem vlN_up {s t q : Nat} (h : s ≤ t) (ht : t ≤ 95) : vlN s q ≤ vlN t q := by
  have h1 := Nat.mul_le_mul_left (pwN q) (stepN_mono h (by omega))
  have h2 := rnd_mono (a := (pwN q : Int) * (stepN s : Int)) (b := (pwN q : Int) * (stepN t : Int)) (n := 256) (by
    have e : ∀ s, (pwN q : Int) * (stepN s : Int) = ((pwN q * stepN s : Nat) : Int) := fun s => by simp
    rw [e, e]
    omega) (by decide)
  unfold vlN
  omega
theorem vlN_zero (s : Nat) : vlN s 0 = 0 := by
  unfold vlN
  rw [pwN_zero]
  simp [rnd]
  decide
theorem vlN_in {s q : Nat} (hs : s ≤ 95) (hq : q ≤ 1023) : 0 ≤ vlN s q ∧ vlN s q ≤ 2097152 := by
  have := vlN_mono hs (Nat.zero_le q) hq
  rw [vlN_zero] at this
  refine ⟨this, ?_⟩
  unfold vlN
  omega
theorem rtE_zero {n : Nat} (h : n ≤ 4486033194356736) : rtE (n : Int) = 0 := by
  rcases rtE_cases (n : Int) with h' | h' | h'
  · omega
  · omega
  · exact h'.2.2
theorem ratE_zero {a : Int} (h0 : 0 ≤ a) (h : a ≤ 37246894080000) : ratE a 256 = 0 := by
  rcases ratE_cases a 256 with h' | h' | h' | h' | h'
  · omega
  · omega
  · omega
  · omega
  · exact h'.2.2.2.2
theorem stE_zero {s : Nat} (h : s ≤ 95) : stE (s : Int) = 0 := by
  rcases stE_cases (s : Int) with h' | h' | h'
  · omega
  · omega
  · exact h'.2.2
set_option maxRecDepth 100000 in
theorem isWithin_any (v m : Int) (w : World) (h0 : 0 ≤ m) (h1 : m ≤ 4611686018427387904) : Calls Try.prog 40 #[.int .i64 v, .int .i64 m] w fun e w' => e = .returned (.bool (decide (-m ≤ v ∧ v ≤ m))) ∧ w' = w := by
  have z2 : IntKind.i64.wrap (-m) = -m := IntWalk.i64_in _ (by omega)
  by_cases a : -m ≤ v
  · have t1 : decide (-m ≤ v) = true := decide_eq_true a
    by_cases b : v ≤ m
    · have t2 : decide (v ≤ m) = true := decide_eq_true b
      have HF := Lib.hid (show decide (-m ≤ v ∧ v ≤ m) = true from decide_eq_true ⟨a, b⟩)
      clear a b h0 h1
      go_enter Try.func40, Try.ntmps40
      go_wp2_with fail
      go_ret
      exact ⟨by rw [HF.out]; rfl, rfl⟩
    · have t2 : decide (v ≤ m) = false := decide_eq_false b
      have HF := Lib.hid (show decide (-m ≤ v ∧ v ≤ m) = false from decide_eq_false (fun h => b h.2))
      clear a b h0 h1
      go_enter Try.func40, Try.ntmps40
      go_wp2_with fail
      go_ret
      exact ⟨by rw [HF.out]; rfl, rfl⟩
  · have t1 : decide (-m ≤ v) = false := decide_eq_false a
    have HF := Lib.hid (show decide (-m ≤ v ∧ v ≤ m) = false from decide_eq_false (fun h => a h.1))
    clear a h0 h1
    go_enter Try.func40, Try.ntmps40
    go_wp2_with fail
    go_ret
    exact ⟨by rw [HF.out]; rfl, rfl⟩
set_option maxRecDepth 100000 in
theorem isScale_any (s : Int) (w : World) : Calls Try.prog 44 #[.int .i64 s] w fun e w' => e = .returned (.bool (decide (0 ≤ s ∧ s ≤ 95))) ∧ w' = w := by
  by_cases a : 0 ≤ s
  · have t1 : decide (0 ≤ s) = true := decide_eq_true a
    by_cases b : s ≤ 95
    · have t2 : decide (s ≤ 95) = true := decide_eq_true b
      have HF := Lib.hid (show decide (0 ≤ s ∧ s ≤ 95) = true from decide_eq_true ⟨a, b⟩)
      clear a b
      go_enter Try.func44, Try.ntmps44
      go_wp2_with fail
      go_ret
      exact ⟨by rw [HF.out]; rfl, rfl⟩
    · have t2 : decide (s ≤ 95) = false := decide_eq_false b
      have HF := Lib.hid (show decide (0 ≤ s ∧ s ≤ 95) = false from decide_eq_false (fun h => b h.2))
      clear a b
      go_enter Try.func44, Try.ntmps44
      go_wp2_with fail
      go_ret
      exact ⟨by rw [HF.out]; rfl, rfl⟩
  · have t1 : decide (0 ≤ s) = false := decide_eq_false a
    have HF := Lib.hid (show decide (0 ≤ s ∧ s ≤ 95) = false from decide_eq_false (fun h => a h.1))
    clear a
    go_enter Try.func44, Try.ntmps44
    go_wp2_with fail
    go_ret
    exact ⟨by rw [HF.out]; rfl, rfl⟩
theorem mulB {a b A B : Int} (ha : -A ≤ a ∧ a ≤ A) (hb : -B ≤ b ∧ b ≤ B) : -(A * B) ≤ a * b ∧ a * b ≤ A * B := by
  have h1 := Int.mul_nonneg (show 0 ≤ A - a by omega) (show 0 ≤ B - b by omega)
  have h2 := Int.mul_nonneg (show 0 ≤ A + a by omega) (show 0 ≤ B + b by omega)
  have h3 := Int.mul_nonneg (show 0 ≤ A - a by omega) (show 0 ≤ B + b by omega)
  have h4 := Int.mul_nonneg (show 0 ≤ A + a by omega) (show 0 ≤ B - b by omega)
  simp only [Int.sub_mul, Int.mul_sub, Int.add_mul, Int.mul_add] at h1 h2 h3 h4
  omega
set_option maxRecDepth 100000 in
set_option maxHeartbeats 2000000 in
theorem power_any (q : Int) (w : World) (hq : -1023 ≤ q ∧ q ≤ 1023) : Calls Try.prog 41 #[.int .i64 q] w fun e w' => e = .returned (.int .i64 (pwN q.natAbs : Nat)) ∧ Upd NoB w w' := by
  have HC := Lib.hid (fun n W => Cube_any n W)
  obtain ⟨n, hn⟩ : ∃ n, q.natAbs = n := ⟨_, rfl⟩
  rw [hn]
  have hn3 : n ≤ 1023 := by omega
  have e4 : 4096 * q * q * q * q = ((4096 * n * n * n * n : Nat) : Int) := by
    rcases Int.natAbs_eq q with h | h
    · rw [hn] at h; rw [h]; simp
    · rw [hn] at h; rw [h]; simp [Int.mul_neg, Int.neg_mul]
  have hb := q4_bd hn3
  have hE := rtE_zero hb
  have HV := Lib.hid (show onOk (rtE ((4096 * n * n * n * n : Nat) : Int)) ((cb ((4096 * n * n * n * n : Nat) : Int).toNat : Nat) : Int) = (pwN n : Nat) by rw [hE]; unfold onOk pwN; rw [if_pos rfl, Int.toNat_natCast])
  obtain ⟨M, hM⟩ : ∃ M : Nat, 4096 * n * n * n * n = M := ⟨_, rfl⟩
  rw [hM] at e4 HV hb hE
  have HCM := Lib.hid (HC.out (M : Int))
  rw [HV.out, hE] at HCM
  have m1 := mulB (a := 4096) (b := q) (A := 4096) (B := 1023) (by omega) hq
  have m2 := mulB m1 hq
  have m3 := mulB m2 hq
  obtain ⟨a1, ha1⟩ : ∃ a, 4096 * q = a := ⟨_, rfl⟩
  rw [ha1] at e4 m1 m2 m3
  obtain ⟨a2, ha2⟩ : ∃ a, a1 * q = a := ⟨_, rfl⟩
  rw [ha2] at e4 m2 m3
  obtain ⟨a3, ha3⟩ : ∃ a, a2 * q = a := ⟨_, rfl⟩
  rw [ha3] at e4 m3
  have z1 : wrap64 (4096 * q) = a1 := by rw [ha1]; exact IntWalk.wrap64_in _ (by omega)
  have z2 : IntKind.i64.wrap (4096 * q) = a1 := by rw [ha1]; exact IntWalk.i64_in _ (by clear z1; omega)
  have z3 : wrap64 (a1 * q) = a2 := by rw [ha2]; exact IntWalk.wrap64_in _ (by clear z1 z2; omega)
  have z4 : IntKind.i64.wrap (a1 * q) = a2 := by rw [ha2]; exact IntWalk.i64_in _ (by clear z1 z2 z3; omega)
  have z5 : wrap64 (a2 * q) = a3 := by rw [ha3]; exact IntWalk.wrap64_in _ (by clear z1 z2 z3 z4; omega)
  have z6 : IntKind.i64.wrap (a2 * q) = a3 := by rw [ha3]; exact IntWalk.i64_in _ (by clear z1 z2 z3 z4 z5; omega)
  have z7 : wrap64 (a3 * q) = (M : Int) := by rw [e4]; exact IntWalk.wrap64_in _ (by clear z1 z2 z3 z4 z5 z6; omega)
  have z8 : IntKind.i64.wrap (a3 * q) = (M : Int) := by rw [e4]; exact IntWalk.i64_in _ (by clear z1 z2 z3 z4 z5 z6 z7; omega)
  clear hn hn3 e4 hb hE hM m1 m2 m3 ha1 ha2 ha3 hq HC HV
  generalize pwN n = p at *
  go_enter Try.func41, Try.ntmps41
  go_wp2_with fail
  refine (HCM.out _).mono ?_
  rintro e w1 ⟨rfl, u1⟩
  have U1 := Lib.hid u1
  clear u1
  go_wp2_with fail
  go_ret
  exact ⟨rfl, U1.out⟩
def pwE (q : Int) : Int := if -1023 ≤ q ∧ q ≤ 1023 then 0 else 6
set_option maxRecDepth 100000 in
theorem Power_any (q : Int) (w : World) : Calls Try.prog 13 #[.int .i64 q] w fun e w' => e = .returned (.tuple #[.int .i64 (if pwE q = 0 then ((pwN q.natAbs : Nat) : Int) else 0), .int .i64 (pwE q)]) ∧ Upd NoB w w' := by
  have HW := Lib.hid (isWithin_any q 1023 w (by decide) (by decide))
  by_cases h : -1023 ≤ q ∧ q ≤ 1023
  · have hE : pwE q = 0 := if_pos h
    have HP := Lib.hid (fun W => power_any q W h)
    rw [hE, if_pos rfl]
    rw [decide_eq_true h] at HW
    generalize pwN q.natAbs = p at *
    clear h hE
    go_enter Try.func13, Try.ntmps13
    go_wp2_with fail
    refine HW.out.mono ?_
    rintro e w1 ⟨rfl, hw1⟩
    rw [hw1]
    clear hw1
    go_wp2_with fail
    refine (HP.out _).mono ?_
    rintro e w2 ⟨rfl, u2⟩
    have U2 := Lib.hid u2
    clear u2
    go_wp2_with fail
    go_ret2
    exact ⟨rfl, U2.out⟩
  · have hE : pwE q = 6 := if_neg h
    rw [hE, if_neg (by decide)]
    rw [decide_eq_false h] at HW
    clear h hE
    go_enter Try.func13, Try.ntmps13
    go_wp2_with fail
    refine HW.out.mono ?_
    rintro e w1 ⟨rfl, rfl⟩
    go_wp2_with fail
    go_ret2
    exact ⟨rfl, Upd.refl _ _⟩
/-- The powers that were asked so far, in memory. -/
def Memo (w : World) (b : Nat) : Prop := ∃ fs : List Int, w.heap[b]? = some (.cells (i64s fs).toArray 93 (0, 0)) ∧ fs.length = 1024 ∧ ∀ (q : Nat) (v : Int), fs[q]? = some v → v = 0 ∨ v = (pwN q : Nat)
theorem Memo.upd {S : Nat → Prop} {w w' : World} {b : Nat} (h : Memo w b) (u : Upd S w w') (hs : ¬ S b) : Memo w' b := by
  obtain ⟨fs, h1, h2, h3⟩ := h
  exact ⟨fs, u.heap h1 hs, h2, h3⟩
theorem Memo.later {w w' : World} {b : Nat} (h : Memo w b) (u : Upd NoB w w') : Memo w' b := h.upd u (noB b)
theorem Memo.lt {w : World} {b : Nat} (h : Memo w b) : b < w.heap.size := by
  obtain ⟨fs, h1, _⟩ := h
  exact lt_of_block h1
theorem i64s_set (fs : List Int) (q : Nat) (v : Int) : (i64s fs).toArray.setIfInBounds q (.int .i64 v) = (i64s (fs.set q v)).toArray := by
  rw [List.setIfInBounds_toArray]
  unfold i64s
  rw [List.map_set]
theorem Memo.put {w : World} {b q : Nat} (h : Memo w b) : Memo (w.setCell ⟨b, q, none⟩ (.int .i64 (pwN q : Nat))) b := by
  obtain ⟨fs, h1, h2, h3⟩ := h
  refine ⟨fs.set q (pwN q : Nat), by rw [← i64s_set]; exact block_set h1 _, by rw [List.length_set]; exact h2, fun j v hj => ?_⟩
  rw [List.getElem?_set] at hj
  split at hj
  · rename_i e
    subst e
    split at hj
    · injection hj with hj
      exact .inr hj.symm
    · cases hj
  · exact h3 j v hj
set_option maxRecDepth 100000 in
set_option maxHeartbeats 2000000 in
theorem of_any (b q : Nat) (w : World) (h : Memo w b) (hq : q ≤ 1023) : Calls Try.prog 93 #[.pointer (some ⟨b, 0, none⟩), .int .i64 (q : Int)] w fun e w' => e = .returned (.int .i64 (pwN q : Nat)) ∧ Memo w' b ∧ Upd (fun k => k = b) w w' := by
  have HP := Lib.hid (fun W => power_any (q : Int) W (by omega))
  rw [Int.natAbs_natCast] at HP
  have HM := Lib.hid h
  obtain ⟨fs, h1, h2, h3⟩ := h
  obtain ⟨v, hv⟩ : ∃ v, fs[q]? = some v := ⟨_, List.getElem?_eq_getElem (by omega)⟩
  have c0 : w.cell? ⟨b, q, none⟩ = some (.int .i64 v) := by rw [blk_cell h1 q, List.getElem?_toArray, i64s_get, hv]; rfl
  have hv2 := h3 q v hv
  have HF := Lib.hid (fun (W : World) (u : Upd NoB w W) => (show W.cell? ⟨b, q, none⟩ = some (.int .i64 v) ∧ W.frozen? ⟨b, q, none⟩ = false from ⟨u.cell c0 (noB _), blk_free (u.heap h1 (noB b)) q⟩))
  have hq4 : q < 1024 := by omega
  have hq5 : (q : Int) < 1024 := by omega
  have HPt := Lib.hid (fun (W : World) (h : Memo W b) => h.put (q := q))
  clear h1 h2 h3 hv hq
  by_cases hz : v = 0
  · subst hz
    generalize pwN q = p at *
    clear hv2
    go_enter Try.func93, Try.ntmps93
    have d9 : w.drew.cell? ⟨b, q, none⟩ = some (.int .i64 0) := c0
    go_wp2_with fail
    go_region_with (go_at_call 41; (with_reducible refine (HP.out _).mono ?_); rintro e w1 ⟨rfl, u1⟩; have u2 := (Upd.refl NoB w).drew.then u1; obtain ⟨e0, f0⟩ := HF.out w1 u2; have U2 := Lib.hid u2; clear u1 u2)
    all_goals
      have U3 := Lib.hid (show Upd (fun k => k = b) w (w1.setCell ⟨b, q, none⟩ (.int .i64 (p : Nat))) from (U2.out.mono (fun _ _ h => h.elim)).setCell _ (fun _ => rfl))
      have M3 := Lib.hid (HPt.out w1 (HM.out.later U2.out))
      have g0 : (w1.setCell ⟨b, q, none⟩ (.int .i64 (p : Nat))).cell? ⟨b, q, none⟩ = some (.int .i64 (p : Nat)) := by
        obtain ⟨fs', k1, _, _⟩ := HM.out.later U2.out
        rw [blk_cell (block_set k1 _) q]
        have hsz : q < (i64s fs').toArray.size := by
          rcases Nat.lt_or_ge q (i64s fs').toArray.size with h | h
          · exact h
          · rw [blk_cell k1 q, Array.getElem?_eq_none h] at e0; cases e0
        rw [Array.getElem?_setIfInBounds_self_of_lt hsz]
      clear e0 f0
      go_wp2_with fail
      go_ret
      exact ⟨rfl, M3.out, U3.out⟩
  · have hvp : v = (pwN q : Nat) := hv2.resolve_left hz
    subst hvp
    have t1 : (((pwN q : Nat) : Int) == 0) = false := beq_eq_false_iff_ne.2 hz
    generalize pwN q = p at *
    clear hv2 hz
    go_enter Try.func93, Try.ntmps93
    go_wp2_with fail
    go_ret
    exact ⟨rfl, HM.out, Upd.refl _ _⟩
end Go.Proofs.Yteioaeceobgbdaa
