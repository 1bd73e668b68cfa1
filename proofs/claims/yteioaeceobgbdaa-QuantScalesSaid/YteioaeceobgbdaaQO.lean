/- quant: the ladders, from the greatest scale down -/
import Derived.Test.YteioaeceobgbdaaQN
namespace Go.Proofs.Yteioaeceobgbdaa
open Go.RowKit Go.Shelf
attribute [local go_sem] Oper.semAt_some

/-- a ladder that is handed over: its scale, the block of its powers -/
abbrev La := { p : Nat × Nat // p.1 ≤ 95 }
abbrev encLa (x : La) : Array Value := #[lad x.1.1 x.1.2]
def downs (k : Nat) : List Nat := (List.range k).map fun i => 95 - i
theorem downs_succ (k : Nat) : downs (k + 1) = downs k ++ [95 - k] := by simp [downs, List.range_succ]
/-- what the body keeps: all powers, and all ladders in memory -/
def KpL (A B : World) : Prop := A.heap.size ≤ B.heap.size ∧ (∀ b, Memo A b → Memo B b) ∧ ∀ (k : Nat) c f, A.heap[k]? = some (.cells c 57 f) → B.heap[k]? = some (.cells c 57 f)
theorem KpL.refl (A : World) : KpL A A := ⟨Nat.le_refl _, fun _ h => h, fun _ _ _ h => h⟩
theorem KpL.trans {A B C : World} (h : KpL A B) (k : KpL B C) : KpL A C := ⟨Nat.le_trans h.1 k.1, fun b m => k.2.1 b (h.2.1 b m), fun i c f e => k.2.2 i c f (h.2.2 i c f e)⟩
theorem kpL_putObj {W : World} {l : Nat} {o o' : Obj} (h : W.heap[l]? = some o) (ho : o.isCells = false) : KpL W (W.putObj l o') :=
  ⟨(grownBy_putObj' W l o').size, fun b ⟨fs, h1, h2, h3⟩ => ⟨fs, (World.putObj_heap_other (fun e => by subst e; rw [h] at h1; cases h1; cases ho)).trans h1, h2, h3⟩,
    fun k c f hk => (World.putObj_heap_other (fun e => by subst e; rw [h] at hk; cases hk; cases ho)).trans hk⟩
theorem Upd.kpL {A B : World} (h : Upd NoB A B) : KpL A B := ⟨h.size, fun _ m => m.later h, fun _ _ _ e => h.heap e (noB _)⟩
theorem Upd.kpLb {A B : World} {b : Nat} (h : Upd (fun k => k = b) A B) (m : Memo A b) (m2 : Memo B b) : KpL A B :=
  ⟨h.size, fun b' ⟨fs, h1, h2, h3⟩ => by
    by_cases e : b' = b
    · subst e; exact m2
    · exact ⟨fs, h.heap h1 e, h2, h3⟩,
   fun k c f hk => h.heap hk (fun e => by
    obtain ⟨fs, h1, _⟩ := m
    have e : k = b := e
    subst e
    rw [hk] at h1
    injection h1 with h1
    injection h1 with _ h1 _
    exact absurd h1 (by decide))⟩
set_option maxRecDepth 100000 in
set_option maxHeartbeats 4000000 in
theorem ladders_in (l n0 : Nat) (J Jx : List La → World → Prop) (hJT : ∀ q A A', J q A → Upd NoB A A' → J q A')
    (hY : ∀ pre x V, J pre V → (Memo V x.1.2 ∧ n0 ≤ x.1.2) → pre.length < 96 → YieldAt Fence.wide 0 Try.prog l (encLa x) V fun e V' => (e = .returned (.bool true) ∧ J (pre ++ [x]) V' ∧ KpL V V') ∨ (e = .returned (.bool false) ∧ Jx (pre ++ [x]) V'))
    (W : World) (hn : n0 ≤ W.heap.size) (h0 : J [] W) :
    CallsIn Fence.wide 1 Try.prog 69 #[.func (.yield l) #[] #[]] W fun e W' => (∃ v, e = .returned v) ∧
      ((∃ ys : List La, ys.map (fun x => x.1.1) = downs 96 ∧ J ys W') ∨ (∃ pre : List La, (∃ k, k < 96 ∧ pre.map (fun x => x.1.1) = downs (k + 1)) ∧ Jx pre W')) := by
  refine callsIn_of_wp Try.func69 rfl trivial ?_ rfl
  simp only [Try.ntmps69, List.size_toArray, List.length_cons, List.length_nil, Nat.reduceAdd, Nat.reduceSub, Array.replicate_succ, Array.replicate_zero, List.push_toArray, List.append_toArray, List.nil_append, List.cons_append]
  have HY := Lib.hid @hY; clear hY
  have HJT := Lib.hid hJT; clear hJT
  have HLd := Lib.hid (fun W => (show Calls Try.prog 46 #[.int .i64 95] W fun e w' => ∃ b, e = .returned (.agg #[.int .i64 95, .int .i64 (stepN 95 : Nat), .pointer (some ⟨b, 0, none⟩)]) ∧ W.heap.size ≤ b ∧ Memo w' b ∧ Upd NoB W w' from ladderOf_any 95 W (by omega)))
  have HWi := Lib.hid (fun sc st pa (s : Nat) (hs : s ≤ 95) W => with_any sc st pa s W hs)
  have H0 := Lib.hid h0; have HN := Lib.hid hn
  clear h0 hn
  gi_wp2
  refine ⟨trivial, ?_⟩
  (with_reducible refine ((callsIn_wide.2 (HLd.out W))).mono ?_)
  rintro e w1 ⟨b, rfl, hb, m1, u1⟩
  have HB := Lib.hid (Nat.le_trans HN.out hb); have J1 := Lib.hid (HJT.out _ _ _ H0.out u1); have M1 := Lib.hid m1
  clear hb m1 u1
  gi_wp2
  have ub : Upd NoB w1 (w1.alloc (.cells #[.int .i64 95, .int .i64 (stepN 95 : Nat), .pointer (some ⟨b, 0, none⟩)] 57)) := (Upd.refl _ _).alloc _
  have cb := heap_alloc_new w1 (.cells #[.int .i64 95, .int .i64 (stepN 95 : Nat), .pointer (some ⟨b, 0, none⟩)] 57)
  obtain ⟨W2, hW2⟩ : ∃ W2, w1.alloc (.cells #[.int .i64 95, .int .i64 (stepN 95 : Nat), .pointer (some ⟨b, 0, none⟩)] 57) = W2 := ⟨_, rfl⟩
  rw [hW2] at ub cb ⊢
  have J2 := Lib.hid (HJT.out _ _ _ J1.out ub); have M2 := Lib.hid (M1.out.later ub); have CB := Lib.hid cb
  generalize w1.heap.size = B at *
  generalize stepN 95 = t at *
  clear ub cb hW2
  gi_loopw [3] (fun i wr => ∃ (k : Nat) (ys : List La), k ≤ 96 ∧ i = .int .i64 (95 - (k : Int)) ∧ ys.map (fun x => x.1.1) = downs k ∧ J ys wr ∧ wr.heap[B]? = some (.cells #[.int .i64 95, .int .i64 (t : Nat), .pointer (some ⟨b, 0, none⟩)] 57 (0, 0)) ∧ Memo wr b) (fun i _ => (intOf i + 1).toNat)
  case atStart => exact ⟨0, [], Nat.zero_le _, rfl, rfl, J2.out, CB.out, M2.out⟩
  case round =>
    obtain ⟨k, ys, hk, rfl, hys, hJs, hc, hM⟩ := hrel
    have Hys := Lib.hid hys; have HJs := Lib.hid hJs; have HCc := Lib.hid hc; have HMm := Lib.hid hM
    obtain ⟨⟨e0, e1, e2⟩, f0, f1, f2⟩ := cells3 hc
    by_cases hlt : k < 96
    · obtain ⟨s, hs⟩ : ∃ s, 95 - k = s := ⟨_, rfl⟩
      have hs2 : 95 - (k : Int) = (s : Int) := by omega
      have HL := Lib.hid (show ys.length < 96 by have h1 := congrArg List.length hys; simp [downs] at h1; omega)
      have HNx := Lib.hid (show ∀ x : La, x.1.1 = s → (ys ++ [x]).map (fun x => x.1.1) = downs (k + 1) from fun x hx => by rw [List.map_append, hys, downs_succ, hs, List.map_singleton, hx])
      have hs3 : s ≤ 95 := by omega
      have HK := Lib.hid (show (s : Int) - 1 = 95 - ((k + 1 : Nat) : Int) by omega)
      have HW := Lib.hid (fun W => HWi.out 95 t (some ⟨b, 0, none⟩) s hs3 W)
      have HS3 := Lib.hid hs3
      rw [hs2]
      have z1 : wrap64 ((s : Int) - 1) = (s : Int) - 1 := IntWalk.wrap64_in _ (by omega)
      have z2 : IntKind.i64.wrap ((s : Int) - 1) = (s : Int) - 1 := IntWalk.i64_in _ (by clear z1; omega)
      clear hs hs2 hs3 hys hJs hc hM
      gi_wp2
      refine ⟨trivial, ?_⟩
      (with_reducible refine ((callsIn_wide.2 (HW.out wr))).mono ?_)
      rintro e w2 ⟨rfl, u2⟩
      have hJ3 := HJT.out _ _ _ HJs.out u2
      have hM3 := HMm.out.later u2
      obtain ⟨fn, tmps, assign, body, hy0, hR⟩ := HY.out ys ⟨(s, b), HS3.out⟩ w2 hJ3 ⟨hM3, HB.out⟩ HL.out
      have HM3 := Lib.hid hM3; have HC3 := Lib.hid (u2.heap HCc.out (noB _))
      simp only [encLa, lad] at hy0
      generalize stepN s = ts at *
      clear hJ3 hM3 u2
      gi_wp2
      refine hR.mono ?_
      rintro e W3 (⟨rfl, hJ4, hk4⟩ | ⟨rfl, hJx4⟩)
      · gi_wp2
        go_roundw
        case rel => exact ⟨k + 1, _, by omega, by rw [HK.out], HNx.out _ rfl, hJ4, hk4.2.2 _ _ _ HC3.out, hk4.2.1 _ HM3.out⟩
        case measure => clear z1 z2; simp [intOf]
      · gi_wp2
        refine bodyPost_ret (results_none rfl _ _ _) rfl ?_
        exact ⟨⟨_, rfl⟩, .inr ⟨_, ⟨k, hlt, HNx.out _ rfl⟩, hJx4⟩⟩
    · obtain rfl : k = 96 := by omega
      clear hys hlt
      have hs2 : 95 - ((96 : Nat) : Int) = -1 := by decide
      rw [hs2]
      gi_wp2
      go_end0
      exact ⟨⟨_, rfl⟩, .inl ⟨ys, Hys.out, hJs⟩⟩
theorem ladders_seq (w : World) : SeqT Fence.wide 1 Try.prog 69 #[] encLa KpL (Upd NoB) (fun _ x V => Memo V x.1.2 ∧ w.heap.size ≤ x.1.2) (fun ys => ys.map (fun x => x.1.1) = downs 96) (fun pre => ∃ k, k < 96 ∧ pre.map (fun x => x.1.1) = downs (k + 1)) 96 w := fun l J Jx W hW hJ _ hY h0 =>
  ladders_in l w.heap.size J Jx hJ hY W hW.size h0
end Go.Proofs.Yteioaeceobgbdaa
