/- digits: the bits of a number by an iterator -/
import Derived.Test.YtpmhioaoniijbaaDoorFP
import Derived.RangeFuncNested
import Derived.RangeFuncBound
import Derived.RangeFuncCalls
import Derived.RangeFuncLeaves
import Derived.Shelf.Abstract
import Derived.Shelf.RegionOpen
import Derived.OwnWalkIn
import Derived.TacticsInMore
import Derived.LoopNIn
import Derived.LoopIn
namespace Go.Proofs.YtpmhioaoniijbaaDoor
open Go.RowKit Go.Shelf
attribute [local go_sem] Oper.semAt_some

def KeepD (D : Nat → Prop) (A B : World) : Prop := ∀ k, D k → B.heap[k]? = A.heap[k]?
theorem KeepD.trans {D : Nat → Prop} {A B C : World} (h : KeepD D A B) (k : KeepD D B C) : KeepD D A C := fun i hi => (k i hi).trans (h i hi)
theorem KeepD.refl (D : Nat → Prop) (A : World) : KeepD D A A := fun _ _ => rfl
theorem KeepD.cell {D : Nat → Prop} {A B : World} (h : KeepD D A B) {p : Addr} (hp : D p.block) : B.cell? p = A.cell? p := World.cell?_of_block (w := A) (h p.block hp)
theorem Upd.keepD {S D : Nat → Prop} {A B : World} (h : Upd S A B) (hd : ∀ k, D k → k < A.heap.size ∧ ¬ S k) : KeepD D A B := fun k hk => h.block k (hd k hk).1 (hd k hk).2
theorem keepD_putObj {D : Nat → Prop} {W : World} {l : Nat} {o' : Obj} (hl : ¬ D l) : KeepD D W (W.putObj l o') := fun k hk => World.putObj_heap_other (fun e => hl (by rw [← e]; exact hk))
theorem digits_in (v n : Int) (w : World) :
    Calls Tryd.prog 68 #[.int .i64 v, .int .i64 n] w fun e w' =>
      e = .returned (.func (.func 88) #[] #[.pointer (some ⟨w.heap.size + 1, 0, none⟩), .pointer (some ⟨w.heap.size, 0, none⟩)]) ∧
      w' = (w.alloc (.cells #[.int .i64 v] 3)).alloc (.cells #[.int .i64 n] 3) := by
  go_enter Tryd.func68, Tryd.ntmps68
  go_wp2
  go_ret
  exact ⟨rfl, rfl⟩
def bitAt (v n i : Nat) : Nat := v / 2 ^ (n - 1 - i) % 2
abbrev encDig (v n i : Nat) : Array Value := #[.int .i64 i, .int .i64 (bitAt v n i : Nat)]
set_option maxRecDepth 100000 in
set_option maxHeartbeats 1000000 in
theorem digits1_in (l Bn Bv v n N : Nat) (hN : n ≤ N) (hn : n ≤ 12) (hv : v ≤ 1048576)
    (J Jx : List Nat → World → Prop) (D : Nat → Prop) (hDn : D Bn) (hDv : D Bv)
    (hY : ∀ pre x W, J pre W → pre.length < N → YieldAt Fence.wide 0 Tryd.prog l (encDig v n x) W fun e W' =>
      (e = .returned (.bool true) ∧ J (pre ++ [x]) W' ∧ KeepD D W W') ∨ (e = .returned (.bool false) ∧ Jx (pre ++ [x]) W'))
    (W : World) (hbn : W.cell? ⟨Bn, 0, none⟩ = some (.int .i64 n)) (hbv : W.cell? ⟨Bv, 0, none⟩ = some (.int .i64 v)) (h0 : J [] W) :
    CallsIn Fence.wide 1 Tryd.prog 88 #[.func (.yield l) #[] #[], .pointer (some ⟨Bn, 0, none⟩), .pointer (some ⟨Bv, 0, none⟩)] W fun e W' => (∃ v, e = .returned v) ∧
      ((∃ ys, ys = List.range n ∧ J ys W') ∨ (∃ pre, pre <+: List.range n ∧ Jx pre W')) := by
  refine callsIn_of_wp Tryd.func88 rfl trivial ?_ rfl
  simp only [Tryd.ntmps88, List.size_toArray, List.length_cons, List.length_nil, Nat.reduceAdd, Nat.reduceSub, Array.replicate_succ, Array.replicate_zero, List.push_toArray, List.append_toArray, List.nil_append, List.cons_append]
  have HY := Lib.hid @hY; clear hY
  gi_wp2
  gi_loopw [6] (fun i wr => ∃ (k : Nat), k ≤ n ∧ i = .int .i64 k ∧ J (List.range k) wr ∧ KeepD D W wr) (fun i _ => n - (intOf i).toNat)
  case atStart => exact ⟨0, Nat.zero_le _, rfl, h0, KeepD.refl _ _⟩
  case round =>
    obtain ⟨k, hk, rfl, hJs, hkd⟩ := hrel
    have en : wr.cell? ⟨Bn, 0, none⟩ = some (.int .i64 n) := (hkd.cell (p := ⟨Bn, 0, none⟩) hDn).trans hbn
    have ev : wr.cell? ⟨Bv, 0, none⟩ = some (.int .i64 v) := (hkd.cell (p := ⟨Bv, 0, none⟩) hDv).trans hbv
    by_cases hlt : k < n
    · obtain ⟨m, hm⟩ : ∃ m, n - 1 - k = m := ⟨_, rfl⟩
      have hm1 : (n : Int) - 1 - k = (m : Int) := by omega
      have hm2 : m ≤ 11 := by omega
      obtain ⟨y, hy⟩ : ∃ y, bitAt v n k = y := ⟨_, rfl⟩
      have hy1 : y ≤ 1 := by rw [← hy]; unfold bitAt; omega
      have hbit : Go.bits .and .i64 ((v : Int) / 2 ^ m) 1 = (y : Int) := by
        have := and_bit (v / 2 ^ m) (by have := Nat.div_le_self v (2 ^ m); omega)
        unfold bitAt at hy
        rw [hm] at hy
        rw [hy] at this
        rw [← this, pw_nat]; rfl
      obtain ⟨fn, tmps, assign, body, hy0, hR⟩ := HY.out (List.range k) k wr hJs (by simp; omega)
      unfold encDig at hy0
      rw [hy] at hy0
      rw [← List.range_succ] at hR
      have nn : ¬ (m : Int) < 0 := by omega
      have w1 : IntKind.i64.wrap ((n : Int) - 1) = (n : Int) - 1 := IntWalk.i64_in _ (by omega)
      have w2 : IntKind.i64.wrap ((n : Int) - 1 - k) = (m : Int) := by rw [hm1]; exact IntWalk.i64_in _ (by omega)
      have w3 : wrap64 (m : Int) = (m : Int) := IntWalk.wrap64_in _ (by omega)
      clear hm hy
      gi_wp2
      refine hR.mono ?_
      rintro e W3 (⟨rfl, hJ3, hk3⟩ | ⟨rfl, hJx3⟩)
      · gi_wp2
        go_roundw
        case rel => exact ⟨k + 1, by omega, by go_num, hJ3, hkd.trans hk3⟩
        case measure => simp [intOf]; omega
      · gi_wp2
        refine bodyPost_ret (results_none rfl _ _ _) rfl ?_
        refine ⟨⟨_, rfl⟩, .inr ⟨List.range (k + 1), ?_, hJx3⟩⟩
        obtain ⟨d, rfl⟩ := Nat.exists_eq_add_of_le (show k + 1 ≤ n by omega)
        exact ⟨(List.range d).map (fun x => k + 1 + x), List.range_add.symm⟩
    · obtain rfl : k = n := by omega
      gi_wp2
      go_end0
      exact ⟨⟨_, rfl⟩, .inl ⟨_, rfl, hJs⟩⟩
def digD (B : Nat) : Nat → Prop := fun k => k = B ∨ k = B + 1
theorem digits_seq (B v n : Nat) (w : World) (hn : n ≤ 12) (hv : v ≤ 1048576)
    (hbn : w.cell? ⟨B + 1, 0, none⟩ = some (.int .i64 n)) (hbv : w.cell? ⟨B, 0, none⟩ = some (.int .i64 v)) (hD : B + 1 < w.heap.size) :
    SeqStopsK Fence.wide 1 Tryd.prog 88 #[.pointer (some ⟨B + 1, 0, none⟩), .pointer (some ⟨B, 0, none⟩)] (encDig v n) (KeepD (digD B)) (fun ys => ys = List.range n) (fun pre => pre <+: List.range n) n w := fun l J Jx W hW _ _ hY h0 => by
  have hk : KeepD (digD B) w W := fun k hk => hW.block k (by rcases hk with rfl | rfl <;> omega)
  exact digits1_in l (B + 1) B v n n (Nat.le_refl _) hn hv J Jx (digD B) (.inr rfl) (.inl rfl) hY W
    ((hk.cell (p := ⟨B + 1, 0, none⟩) (.inr rfl)).trans hbn) ((hk.cell (p := ⟨B, 0, none⟩) (.inl rfl)).trans hbv) h0
end Go.Proofs.YtpmhioaoniijbaaDoor
