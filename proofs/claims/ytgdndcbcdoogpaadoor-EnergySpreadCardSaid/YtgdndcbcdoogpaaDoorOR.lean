/- energy: steps -/
import Derived.Test.YtgdndcbcdoogpaaDoorGm
namespace Go.Proofs.YtgdndcbcdoogpaaDoor
open Go.RowKit Go.Shelf
attribute [local go_sem] Oper.semAt_some

theorem steps_any (v : Int) (w : World) : Calls Tryd.prog 102 #[.int .i64 v] w fun e w' =>
    e = .returned (.func (.func 108) #[] #[.pointer (some ⟨w.heap.size, 0, none⟩)]) ∧ w' = w.alloc (.cells #[.int .i64 v] 3) := by
  go_enter Tryd.func102, Tryd.ntmps102
  go_wp2
  go_ret
  exact ⟨rfl, rfl⟩
abbrev encT (x : Nat × Nat × Int) : Array Value := #[.agg #[.int .i64 (x.1 : Int), .int .i64 (x.2.1 : Int), .int .i64 x.2.2]]
def upT (k : Nat) : Nat × Nat × Int := (k, k + 1, 384)
def dnT (N k : Nat) : Nat × Nat × Int := (N - k, N - k - 1, 768)
def stL (N : Nat) : List (Nat × Nat × Int) := (List.range N).map upT ++ (List.range N).map (dnT N)
theorem stL_len (N : Nat) : (stL N).length = 2 * N := by unfold stL; simp; omega
theorem stL_up {N k : Nat} (h : k < N) : (List.range k).map upT ++ [upT k] <+: stL N := by
  rw [show (List.range k).map upT ++ [upT k] = (List.range (k + 1)).map upT by rw [List.range_succ, List.map_append]; rfl]
  unfold stL
  refine List.IsPrefix.trans ?_ (List.prefix_append _ _)
  rw [show (List.range (k + 1)).map upT = ((List.range N).map upT).take (k + 1) by rw [← List.map_take, List.take_range, Nat.min_eq_left (by omega)]]
  exact List.take_prefix _ _
theorem stL_dn {N k : Nat} (h : k < N) : (List.range N).map upT ++ (List.range k).map (dnT N) ++ [dnT N k] <+: stL N := by
  rw [List.append_assoc, show (List.range k).map (dnT N) ++ [dnT N k] = (List.range (k + 1)).map (dnT N) by rw [List.range_succ, List.map_append]; rfl]
  unfold stL
  rw [List.prefix_append_right_inj]
  rw [show (List.range (k + 1)).map (dnT N) = ((List.range N).map (dnT N)).take (k + 1) by rw [← List.map_take, List.take_range, Nat.min_eq_left (by omega)]]
  exact List.take_prefix _ _
set_option maxRecDepth 100000 in
set_option maxHeartbeats 4000000 in
theorem steps1_in (l B n N : Nat) (R : Nat → Prop) (hN : N ≤ 1000)
    (J : List (Nat × Nat × Int) → World → Prop) (W : World)
    (hY : ∀ pre x V, J pre V → pre ++ [x] <+: stL N → W.heap.size ≤ V.heap.size → YieldAt Fence.wide (n - 1) Tryd.prog l (encT x) V fun e V' => e = .returned (.bool true) ∧ J (pre ++ [x]) V' ∧ KpC R V V')
    (hb : W.cell? ⟨B, 0, none⟩ = some (.int .i64 ((N + 1 : Nat) : Int))) (hRB : ¬ R B) (h0 : J [] W) :
    CallsIn Fence.wide n Tryd.prog 108 #[.func (.yield l) #[] #[], .pointer (some ⟨B, 0, none⟩)] W fun e W' => (∃ v, e = .returned v) ∧ J (stL N) W' := by
  refine callsIn_of_wp Tryd.func108 rfl trivial ?_ rfl
  simp only [Tryd.ntmps108, List.size_toArray, List.length_cons, List.length_nil, Nat.reduceAdd, Nat.reduceSub, Array.replicate_succ, Array.replicate_zero, List.push_toArray, List.append_toArray, List.nil_append, List.cons_append]
  have HY := Lib.hid @hY; clear hY
  have HRB := Lib.hid hRB
  have HU := Lib.hid (fun k (h : k < N) => stL_up h)
  have HD := Lib.hid (fun k (h : k < N) => stL_dn h)
  have HE := Lib.hid (show stL N = (List.range N).map upT ++ (List.range N).map (dnT N) from rfl)
  generalize stL N = SL at *
  have HDk := Lib.hid (fun k => show dnT N k = (N - k, N - k - 1, 768) from rfl)
  obtain ⟨L, hL⟩ : ∃ L, N + 1 = L := ⟨_, rfl⟩
  rw [hL] at hb
  have HL := Lib.hid hL; have HB := Lib.hid hb
  have hL2 : L ≤ 1001 := by omega
  clear hb hRB hL
  gi_wp2
  gi_loopw [3] (fun i wr => ∃ k z : Nat, k ≤ N ∧ Hid (z = k + 1) ∧ i = .int .i64 (z : Int) ∧ J ((List.range k).map upT) wr ∧ KpC R W wr) (fun i _ => L - (intOf i).toNat)
  case atStart => exact ⟨0, 1, Nat.zero_le _, rfl, rfl, h0, KpC.refl _ _⟩
  case round =>
    obtain ⟨k, z, hk, hz, rfl, hj, hkp⟩ := hrel
    have e1 := hkp.cell (p := ⟨B, 0, none⟩) HRB.out HB.out
    have hLN := HL.out
    have hz1 : z = k + 1 := hz
    have HJ := Lib.hid hj; have HK := Lib.hid hkp
    by_cases hlt : k < N
    · have t1 : decide ((z : Int) < (L : Int)) = true := decide_eq_true (by omega)
      have t1n : decide (z < L) = true := decide_eq_true (by omega)
      have hw1 : wrap64 ((z : Int) - 1) = (k : Int) := by rw [IntWalk.wrap64_in _ (by omega)]; omega
      have hw2 : IntKind.i64.wrap ((z : Int) - 1) = (k : Int) := by rw [IntWalk.i64_in _ (by omega)]; omega
      have HYk := Lib.hid (HY.out _ (upT k) wr hj (HU.out k hlt) hkp.1)
      have hsz : z ≤ 1000 := by omega
      have hzL : z < L := by omega
      have HM := Lib.hid (show (List.range (k + 1)).map upT = (List.range k).map upT ++ [upT k] by rw [List.range_succ, List.map_append]; rfl)
      have HKz := Lib.hid hz1
      clear hj hkp hLN hz1 hk
      obtain ⟨fn, tmps, assign, body, hy0, hR⟩ := HYk.out
      simp only [encT, upT, ← HKz.out] at hy0
      gi_wp2
      refine ⟨(fun h => by cases h), hR.mono ?_⟩
      rintro e W9 ⟨rfl, hJ9, hk9⟩
      have HJ9 := Lib.hid hJ9; have HK9 := Lib.hid (HK.out.trans hk9)
      clear hJ9 hk9
      gi_wp2
      go_roundw
      case rel => exact ⟨k + 1, z + 1, by omega, by have := HKz.out; show _ = _; omega, by go_num, by rw [HM.out]; exact HJ9.out, HK9.out⟩
      case measure => simp [intOf]; omega
    · obtain rfl : k = N := by omega
      have t1 : decide ((z : Int) < (L : Int)) = false := decide_eq_false (by omega)
      have t1n : decide (z < L) = false := decide_eq_false (by omega)
      have hw1 : wrap64 ((L : Int) - 1) = (k : Int) := by rw [IntWalk.wrap64_in _ (by omega)]; omega
      have hw2 : IntKind.i64.wrap ((L : Int) - 1) = (k : Int) := by rw [IntWalk.i64_in _ (by omega)]; omega
      clear hj hkp hLN hz1 hz hk
      gi_wp2
      gi_loopw [4] (fun i wr2 => ∃ q y : Nat, q ≤ k ∧ Hid (q + y = k) ∧ i = .int .i64 (y : Int) ∧ J ((List.range k).map upT ++ (List.range q).map (dnT k)) wr2 ∧ KpC R wr wr2) (fun i _ => (intOf i).toNat)
      case atStart => exact ⟨0, k, Nat.zero_le _, Nat.zero_add _, rfl, by simpa using HJ.out, KpC.refl _ _⟩
      case round =>
        obtain ⟨q, y, hq, hy, rfl, hj, hkp⟩ := hrel
        have hy1 : q + y = k := hy
        have HJ2 := Lib.hid hj; have HK2 := Lib.hid (HK.out.trans hkp); have HKp := Lib.hid hkp
        by_cases hlt : 0 < y
        · have t2 : decide ((0 : Int) < (y : Int)) = true := decide_eq_true (by omega)
          have t2n : decide (0 < y) = true := decide_eq_true hlt
          obtain ⟨u, hu⟩ : ∃ u, u + 1 = y := ⟨y - 1, by omega⟩
          have hw3 : wrap64 ((y : Int) - 1) = (u : Int) := by rw [IntWalk.wrap64_in _ (by omega)]; omega
          have hw4 : IntKind.i64.wrap ((y : Int) - 1) = (u : Int) := by rw [IntWalk.i64_in _ (by omega)]; omega
          have HYk := Lib.hid (HY.out _ (dnT k q) _ hj (HD.out q (by omega)) HK2.out.1)
          have HM := Lib.hid (show (List.range (q + 1)).map (dnT k) = (List.range q).map (dnT k) ++ [dnT k q] by rw [List.range_succ, List.map_append]; rfl)
          have HU1 := Lib.hid hu
          have HDq := Lib.hid (show dnT k q = (y, u, 768) by rw [HDk.out, show k - q = y by omega, show y - 1 = u by omega])
          have HY1 := Lib.hid hy1
          obtain ⟨fn, tmps, assign, body, hy0, hR⟩ := HYk.out
          simp only [encT, HDq.out] at hy0
          clear hj hkp hy1 hq hy hu
          gi_wp2
          refine ⟨(fun h => by cases h), hR.mono ?_⟩
          rintro e W9 ⟨rfl, hJ9, hk9⟩
          have HJ9 := Lib.hid hJ9; have HK9 := Lib.hid (HKp.out.trans hk9)
          clear hJ9 hk9
          gi_wp2
          go_roundw
          case rel => exact ⟨q + 1, u, by have := HY1.out; have := HU1.out; omega, by have := HY1.out; have := HU1.out; show _ = _; omega, by go_num, by rw [HM.out, ← List.append_assoc]; exact HJ9.out, HK9.out⟩
          case measure => have := HU1.out; simp [intOf]; omega
        · obtain rfl : y = 0 := by omega
          obtain rfl : q = k := by omega
          clear hj hkp hy1 hq hy
          gi_wp2
          go_end0
          exact ⟨⟨_, rfl⟩, by rw [HE.out]; exact HJ2.out⟩
theorem steps1_seq (B n N : Nat) (R : Nat → Prop) (hN : N ≤ 1000) (w : World) (hb : w.cell? ⟨B, 0, none⟩ = some (.int .i64 ((N + 1 : Nat) : Int))) (hRB : ¬ R B) :
    SeqP Fence.wide n Tryd.prog 108 #[.pointer (some ⟨B, 0, none⟩)] encT (KpC R) (fun pre x _ => pre ++ [x] <+: stL N) (fun xs => xs = stL N) 0 (stL N).length w := fun l J W hW hJ hY h0 => by
  have u := Upd.ofBelow hW
  refine (steps1_in l B n N R hN J W (fun pre x V hj hp hV => ?_) (u.cell hb (noB _)) hRB h0).mono ?_
  · refine (hY pre x V hj hp hV (by have := hp.length_le; simp at this; omega)).mono ?_
    rintro e V' ⟨h1, h2, h3, _⟩
    exact ⟨h1, h2, h3⟩
  · rintro e W' ⟨h1, h2⟩
    exact ⟨h1, _, rfl, h2⟩
end Go.Proofs.YtgdndcbcdoogpaaDoor
