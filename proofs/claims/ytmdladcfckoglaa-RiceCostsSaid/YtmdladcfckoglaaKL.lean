/- rice: the parts of a list, one after the other -/
import Derived.Test.YtmdladcfckoglaaKK
namespace Go.Proofs.Ytmdladcfckoglaa
open Go.RowKit Go.Shelf
attribute [local go_sem] Oper.semAt_some

theorem canB_num (n p : Nat) : canB n p = (decide (p = 0) || (decide (0 < n) && decide (n % 2 ^ p = 0))) := by
  unfold canB
  by_cases h1 : p = 0 <;> by_cases h2 : 0 < n <;> by_cases h3 : n % 2 ^ p = 0 <;> simp [h1, h2, h3]
set_option maxRecDepth 100000 in
set_option maxHeartbeats 1000000 in
theorem canHave_any (n p : Nat) (w : World) (hn : n ≤ 8192) (hp : p ≤ 3) : Calls Try.prog 103 #[.int .i64 (n : Int), .int .i64 (p : Int)] w fun e w' => e = .returned (.bool (canB n p)) ∧ w = w' := by
  have HB := Lib.hid (canB_num n p)
  rw [HB.out]
  by_cases hp0 : p = 0
  · subst hp0
    clear HB
    go_enter Try.func103, Try.ntmps103
    go_wp2
    go_ret
    exact ⟨rfl, rfl⟩
  · have t0 : (((p : Int)) == 0) = false := by rw [Bool.eq_false_iff]; intro hh; have := beq_iff_eq.1 hh; omega
    rw [show decide (p = 0) = false from decide_eq_false hp0]
    obtain ⟨m, hm⟩ : ∃ m, 2 ^ p = m := ⟨_, rfl⟩
    have hm2 : (2 : Int) ^ p = (m : Int) := by rw [← hm]; simp
    have hmpos : 0 < m := by rw [← hm]; exact Nat.two_pow_pos p
    have hm8 : m ≤ 8 := by rw [← hm]; exact Nat.pow_le_pow_right (n := 2) (by decide) hp
    rw [hm]
    have er : (n : Int) % (m : Int) = ((n % m : Nat) : Int) := by simp
    have hmw : wrap64 (m : Int) = (m : Int) := IntWalk.wrap64_in _ (by omega)
    have hmz : ((m : Int) == 0) = false := by rw [Bool.eq_false_iff]; intro hh; have := beq_iff_eq.1 hh; omega
    generalize n % m = r at *
    clear HB hm hp0
    by_cases h0 : 0 < n
    · have t1 : decide ((0 : Int) < (n : Int)) = true := decide_eq_true (by omega)
      rw [show decide (0 < n) = true from decide_eq_true h0]
      by_cases hr : r = 0
      · subst hr
        go_enter Try.func103, Try.ntmps103
        go_wp2
        go_ret
        exact ⟨rfl, rfl⟩
      · have t2 : ((r : Int) == 0) = false := by rw [Bool.eq_false_iff]; intro hh; have := beq_iff_eq.1 hh; omega
        rw [show decide (r = 0) = false from decide_eq_false hr]
        clear hr
        go_enter Try.func103, Try.ntmps103
        go_wp2
        go_ret
        exact ⟨rfl, rfl⟩
    · rw [show decide (0 < n) = false from decide_eq_false h0]
      obtain rfl : n = 0 := by omega
      clear h0 er
      go_enter Try.func103, Try.ntmps103
      go_wp2
      go_ret
      exact ⟨rfl, rfl⟩
theorem parts_any (a : Option Addr) (L cap : Nat) (p : Int) (w : World) :
    Calls Try.prog 81 #[.slice a L cap, .int .i64 p] w fun e w' =>
      e = .returned (.func (.func 101) #[] #[.pointer (some ⟨w.heap.size, 0, none⟩), .pointer (some ⟨w.heap.size + 1, 0, none⟩)]) ∧
      w' = (w.alloc (.cells #[.slice a L cap] 27)).alloc (.cells #[.int .i64 p] 3) := by
  go_enter Try.func81, Try.ntmps81
  go_wp2
  go_ret
  exact ⟨rfl, rfl⟩
/-- the slice of a part -/
def subV (a : Option Addr) (cap N i : Nat) : Value := .slice (if cap = i * N then a else a.map (·.add (i * N))) N (cap - i * N)
theorem part_in {i M N L : Nat} (hi : i < M) (hML : M * N ≤ L) : i * N + N ≤ L := by
  have h1 : (i + 1) * N ≤ M * N := Nat.mul_le_mul_right N hi
  rw [Nat.add_mul, Nat.one_mul] at h1
  omega
theorem part_len {l : List Int} {i M N : Nat} (hi : i < M) (hML : M * N ≤ l.length) : (partOf l N i).length = N := by
  have h := part_in hi hML
  unfold partOf
  rw [List.length_take, List.length_drop]
  generalize i * N = q at *
  generalize l.length = L at *
  omega
theorem subV_ints {w : World} {a : Option Addr} {cap : Nat} {l : List Int} {i M N : Nat} (h : Ints w (.slice a l.length cap) l) (hi : i < M) (hML : M * N ≤ l.length) : Ints w (subV a cap N i) (partOf l N i) := by
  obtain ⟨h1, a', cap', e, ⟨hlc, hnone⟩, h3⟩ := h
  cases e
  have hl := part_len (l := l) hi hML
  have hin := part_in hi hML
  have hget : ∀ (j : Nat) (x : Int), (partOf l N i)[j]? = some x → j < N → l[i * N + j]? = some x := fun j x hj hjl => by
    unfold partOf at hj
    rw [List.getElem?_take, if_pos hjl, List.getElem?_drop] at hj
    exact hj
  have hnil : l = [] → partOf l N i = [] := fun h => by rw [h]; simp [partOf]
  unfold subV
  generalize partOf l N i = P at *
  generalize i * N = q at *
  generalize hL : l.length = L at *
  subst hl
  refine ⟨by clear hget hnil h3 hnone; omega, _, _, rfl, ⟨by clear hget hnil h3 hnone; omega, fun e => ?_⟩, ?_⟩
  · split at e
    · rename_i hc; rw [hc]; exact Nat.sub_self _
    · rw [Option.map_eq_none_iff] at e
      rw [hnone e, Nat.zero_sub]
  · rcases h3 with h3 | ⟨b, off, rfl, h3⟩
    · exact .inl (hnil h3)
    · by_cases hz : P = []
      · exact .inl hz
      · have hpos := List.length_pos_iff.2 hz
        rw [if_neg (by clear hget hnil h3 hnone; omega)]
        refine .inr ⟨b, off + q, by rw [Option.map_some, addr_add], fun j x hj => ?_⟩
        rw [Nat.add_assoc]
        exact h3 (q + j) x (hget j x hj (List.getElem?_eq_some_iff.1 hj).1)
theorem Try.infoIntK : (Try.prog.info? 3).map (fun i => (i.zero, i.size, i.bytes)) = some (some (.int .i64 0), 1, 8) := by kernel_rfl
theorem run_sub (w : World) (a : Option Addr) (L cap P1 P2 N i : Nat) (hP1 : P1 = i * N) (hP2 : P2 = i * N + N) (hc : P2 ≤ cap) :
    (Instr.slice 27 (.slice a L cap) (some (.int .i64 (P1 : Int))) (some (.int .i64 (P2 : Int))) none).run Try.prog w = .ok (subV a cap N i) w := by
  obtain ⟨i0, hi, hz0, hz1, hz2⟩ := info_parts Try.infoIntK
  have := run_slice2 (P := Try.prog) w 27 3 i0 Try.underlying27 hi hz1 a L cap P1 P2 (by omega) hc
  rw [this]
  unfold subV
  subst hP1
  rw [show P2 - i * N = N by omega]
abbrev encQ (a : Option Addr) (cap N M : Nat) (i : Ix M) : Array Value := #[.int .i64 (i.1 : Nat), subV a cap N i.1]
set_option maxRecDepth 100000 in
set_option maxHeartbeats 1000000 in
theorem parts1_in (l B1 B2 : Nat) (a : Option Addr) (L cap N M p : Nat) (hL : L ≤ 8192) (hM : M ≤ 8) (hML : M * N ≤ L) (hcap : L ≤ cap) (h1 : (L : Int) / 2 ^ p = (N : Int)) (h2 : (2 : Int) ^ p = (M : Int)) (hp : p ≤ 3)
    (J Jx : List (Ix M) → World → Prop) (D : Nat → Prop) (hD1 : D B1) (_hD2 : D B2)
    (hY : ∀ pre x W, J pre W → pre.length < M → YieldAt Fence.wide 0 Try.prog l (encQ a cap N M x) W fun e W' =>
      (e = .returned (.bool true) ∧ J (pre ++ [x]) W' ∧ KeepD D W W') ∨ (e = .returned (.bool false) ∧ Jx (pre ++ [x]) W'))
    (W : World) (hb1 : W.cell? ⟨B1, 0, none⟩ = some (.slice a L cap)) (hb2 : W.cell? ⟨B2, 0, none⟩ = some (.int .i64 (p : Int))) (h0 : J [] W) :
    CallsIn Fence.wide 1 Try.prog 101 #[.func (.yield l) #[] #[], .pointer (some ⟨B1, 0, none⟩), .pointer (some ⟨B2, 0, none⟩)] W fun e W' => (∃ v, e = .returned v) ∧
      ((∃ ys : List (Ix M), ys.map Subtype.val = List.range M ∧ J ys W') ∨ (∃ pre : List (Ix M), pre.map Subtype.val <+: List.range M ∧ Jx pre W')) := by
  refine callsIn_of_wp Try.func101 rfl trivial ?_ rfl
  simp only [Try.ntmps101, List.size_toArray, List.length_cons, List.length_nil, Nat.reduceAdd, Nat.reduceSub, Array.replicate_succ, Array.replicate_zero, List.push_toArray, List.append_toArray, List.nil_append, List.cons_append]
  have HY := Lib.hid @hY; clear hY
  have hN : N ≤ 8192 := by
    have h3 : ((L : Int) / 2 ^ p) ≤ L := Int.ediv_le_self _ (by clear h1 h2 hML; omega)
    rw [h1] at h3
    clear h1 h2 hML
    omega
  have h1' : (L : Int) / (M : Int) = (N : Int) := by rw [← h2]; exact h1
  clear h1
  have w1 : wrap64 (M : Int) = (M : Int) := by clear h1' h2 hML; exact IntWalk.wrap64_in _ (by omega)
  gi_wp2
  gi_loopw [12] (fun i wr => ∃ (k : Nat) (ys : List (Ix M)), k ≤ M ∧ i = .int .i64 k ∧ ys.map Subtype.val = List.range k ∧ J ys wr ∧ KeepD D W wr) (fun i _ => M - (intOf i).toNat)
  case atStart => exact ⟨0, [], Nat.zero_le _, rfl, rfl, h0, KeepD.refl _ _⟩
  case round =>
    obtain ⟨k, ys, hk, rfl, hys, hJs, hkd⟩ := hrel
    have e1 : wr.cell? ⟨B1, 0, none⟩ = some (.slice a L cap) := (hkd.cell (p := ⟨B1, 0, none⟩) hD1).trans hb1
    by_cases hlt : k < M
    · have hl : ys.length < M := by
        have := congrArg List.length hys
        simp at this
        omega
      obtain ⟨fn, tmps, assign, body, hy0, hR⟩ := HY.out ys ⟨k, hlt⟩ wr hJs hl
      have hnext : (ys ++ [(⟨k, hlt⟩ : Ix M)]).map Subtype.val = List.range (k + 1) := by rw [List.map_append, hys, List.range_succ]; rfl
      have Hnext := Lib.hid hnext; clear hnext
      have Hys := Lib.hid hys; clear hys
      simp only [encQ] at hy0
      have hin := part_in hlt hML
      obtain ⟨P1, hP1⟩ : ∃ P1, P1 = k * N := ⟨_, rfl⟩
      obtain ⟨P2, hP2⟩ : ∃ P2, P2 = k * N + N := ⟨_, rfl⟩
      have m1 : (k : Int) * (N : Int) = (P1 : Int) := by rw [hP1]; simp
      have m2 : ((k : Int) + 1) * (N : Int) = (P2 : Int) := by rw [hP2, Int.add_mul, Int.one_mul]; simp
      rw [← hP2] at hin
      have hle : P1 ≤ P2 := by rw [hP1, hP2]; omega
      have hrun := fun w => run_sub w a L cap P1 P2 N k hP1 hP2 (by omega)
      generalize subV a cap N k = sv at *
      have wk1 : wrap64 (P1 : Int) = (P1 : Int) := by clear m1 m2 hP1 hP2 h1' h2 hML hrun w1; exact IntWalk.wrap64_in _ (by omega)
      have wk2 : wrap64 (P2 : Int) = (P2 : Int) := by clear m1 m2 hP1 hP2 h1' h2 hML hrun w1 wk1; exact IntWalk.wrap64_in _ (by omega)
      have HP1 := Lib.hid hP1; have HP2 := Lib.hid hP2
      clear hl hP1 hP2 hML hin hle
      gi_wp2
      clear m1 m2 wk1 wk2 hrun h2 h1' w1 e1
      refine hR.mono ?_
      rintro e W3 (⟨rfl, hJ3, hk3⟩ | ⟨rfl, hJx3⟩)
      · gi_wp2
        go_roundw
        case rel => exact ⟨k + 1, _, by omega, by go_num, Hnext.out, hJ3, hkd.trans hk3⟩
        case measure => simp [intOf]; omega
      · gi_wp2
        refine bodyPost_ret (results_none rfl _ _ _) rfl ?_
        refine ⟨⟨_, rfl⟩, .inr ⟨_, ?_, hJx3⟩⟩
        rw [Hnext.out]
        obtain ⟨d, hd⟩ := Nat.exists_eq_add_of_le (show k + 1 ≤ M by omega)
        rw [hd]
        exact ⟨(List.range d).map (fun x => k + 1 + x), List.range_add.symm⟩
    · obtain rfl : k = M := by omega
      have Hys := Lib.hid hys; clear hys
      gi_wp2
      go_end0
      exact ⟨⟨_, rfl⟩, .inl ⟨_, Hys.out, hJs⟩⟩
def partD (B : Nat) : Nat → Prop := fun k => k = B ∨ k = B + 1
theorem parts1_seq (B : Nat) (a : Option Addr) (L cap N M p : Nat) (w : World) (hL : L ≤ 8192) (hM : M ≤ 8) (hML : M * N ≤ L) (hcap : L ≤ cap) (h1 : (L : Int) / 2 ^ p = (N : Int)) (h2 : (2 : Int) ^ p = (M : Int)) (hp : p ≤ 3)
    (hb1 : w.cell? ⟨B, 0, none⟩ = some (.slice a L cap)) (hb2 : w.cell? ⟨B + 1, 0, none⟩ = some (.int .i64 (p : Int))) (hD : B + 1 < w.heap.size) :
    SeqStopsK Fence.wide 1 Try.prog 101 #[.pointer (some ⟨B, 0, none⟩), .pointer (some ⟨B + 1, 0, none⟩)] (encQ a cap N M) (KeepD (partD B)) (fun ys => ys.map Subtype.val = List.range M) (fun pre => pre.map Subtype.val <+: List.range M) M w := fun l J Jx W hW _ _ hY h0 => by
  have hk : KeepD (partD B) w W := fun k hk => hW.block k (by rcases hk with rfl | rfl <;> omega)
  exact parts1_in l B (B + 1) a L cap N M p hL hM hML hcap h1 h2 hp J Jx (partD B) (.inl rfl) (.inr rfl) hY W
    ((hk.cell (p := ⟨B, 0, none⟩) (.inl rfl)).trans hb1) ((hk.cell (p := ⟨B + 1, 0, none⟩) (.inr rfl)).trans hb2) h0
end Go.Proofs.Ytmdladcfckoglaa
