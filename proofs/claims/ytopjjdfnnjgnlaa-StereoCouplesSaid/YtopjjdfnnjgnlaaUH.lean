/- stereo: bands, an iterator -/
import Derived.Test.YtopjjdfnnjgnlaaUD
import Derived.Test.YtopjjdfnnjgnlaaRQ
namespace Go.Proofs.Ytopjjdfnnjgnlaa
open Go.RowKit Go.Shelf
attribute [local go_sem] Oper.semAt_some

def KeepD (D : Nat → Prop) (A B : World) : Prop := ∀ k, D k → B.heap[k]? = A.heap[k]?
theorem KeepD.trans {D : Nat → Prop} {A B C : World} (h : KeepD D A B) (k : KeepD D B C) : KeepD D A C := fun i hi => (k i hi).trans (h i hi)
theorem KeepD.refl (D : Nat → Prop) (A : World) : KeepD D A A := fun _ _ => rfl
theorem KeepD.cell {D : Nat → Prop} {A B : World} (h : KeepD D A B) {p : Addr} (hp : D p.block) : B.cell? p = A.cell? p := World.cell?_of_block (w := A) (h p.block hp)
theorem Upd.keepD {S D : Nat → Prop} {A B : World} (h : Upd S A B) (hd : ∀ k, D k → k < A.heap.size ∧ ¬ S k) : KeepD D A B := fun k hk => h.block k (hd k hk).1 (hd k hk).2
theorem keepD_putObj {D : Nat → Prop} {W : World} {l : Nat} {o' : Obj} (hl : ¬ D l) : KeepD D W (W.putObj l o') := fun k hk => World.putObj_heap_other (fun e => hl (by rw [← e]; exact hk))
theorem keeps_of_upd {S : Nat → Prop} {W W' : World} {B : Nat} (h : Upd S W W') (hs : ∀ k, B ≤ k → ¬ S k) : KeepsFrom B W W' :=
  ⟨h.size, fun k _ hB hk _ => h.heap hk (hs k hB)⟩
theorem Ints.keepD {D : Nat → Prop} {A B : World} {v : Value} {xs : List Int} (h : Ints A v xs) (k : KeepD D A B) (hD : xs ≠ [] → ∀ b, v.ownBlock = some b → D b) : Ints B v xs := by
  obtain ⟨hb, a, cap, rfl, hc, h3⟩ := h
  refine ⟨hb, a, cap, rfl, hc, ?_⟩
  rcases h3 with h3 | ⟨b, off, rfl, h3⟩
  · exact .inl h3
  · exact .inr ⟨b, off, rfl, fun j x hx => (k.cell (p := ⟨b, off + j, none⟩) (hD (by rintro rfl; simp at hx) b rfl)).trans (h3 j x hx)⟩
abbrev encB (ws : List Int) (k : Nat) : Array Value := #[.int .i64 (k : Nat), .agg #[.int .i64 (psN ws k : Nat), .int .i64 (psN ws (k + 1) : Nat)]]
theorem bands_any (x y : Value) (w : World) : Calls Try.prog 87 #[.agg #[x, y]] w fun e w' =>
    e = .returned (.func (.func 110) #[] #[.pointer (some ⟨w.heap.size, 0, none⟩)]) ∧ w' = w.alloc (.cells #[x, y] 51) := by
  go_enter Try.func87, Try.ntmps87
  go_wp2
  go_ret
  exact ⟨rfl, rfl⟩
set_option maxRecDepth 100000 in
set_option maxHeartbeats 2000000 in
theorem bands1_in (l B n : Nat) (sw : Value) (ws : List Int) (hw : isW ws = true)
    (J : Nat → World → Prop) (D : Nat → Prop) (W : World) (hX : ∀ V, KeepD D W V → Ints V sw ws) (hJ : OwnM W.heap.size 0 J)
    (hY : ∀ k V, J k V → W.heap.size + 0 ≤ V.heap.size → k < ws.length → YieldAt Fence.wide (n - 1) Try.prog l (encB ws k) V fun e V' => e = .returned (.bool true) ∧ J (k + 1) V' ∧ KeepD D V V' ∧ V.heap.size ≤ V'.heap.size)
    (hb1 : W.cell? ⟨B, 1, none⟩ = some sw) (h0 : J 0 W) :
    CallsIn Fence.wide n Try.prog 110 #[.func (.yield l) #[] #[], .pointer (some ⟨B, 0, none⟩)] W fun e W' => (∃ v, e = .returned v) ∧ J ws.length W' := by
  obtain ⟨sa, sc, rfl⟩ := (hX W (KeepD.refl _ _)).form
  have HX := Lib.hid hX; have HY := Lib.hid @hY; have HJ := Lib.hid hJ
  have HWg := Lib.hid (fun k hk => isW_get hw (k := k) hk)
  have HP0 := Lib.hid (psN_zero ws)
  have hN8 := (isW_ok hw).1
  obtain ⟨N, hN⟩ : ∃ N, ws.length = N := ⟨_, rfl⟩
  rw [hN] at HX HY HWg hb1 hN8 ⊢
  clear hX hY hJ hw hN
  refine callsIn_of_wp Try.func110 rfl trivial ?_ rfl
  simp only [Try.ntmps110, List.size_toArray, List.length_cons, List.length_nil, Nat.reduceAdd, Nat.reduceSub, Array.replicate_succ, Array.replicate_zero, List.push_toArray, List.append_toArray, List.nil_append, List.cons_append]
  gi_wp2
  gi_loopw [3, 9] (fun f i wr => ∃ k : Nat, k ≤ N ∧ i = .int .i64 (k : Int) ∧ f = .int .i64 (psN ws k : Nat) ∧ J k wr ∧ KeepD D W wr ∧ W.heap.size ≤ wr.heap.size) (fun _ i _ => N - (intOf i).toNat)
  case atStart => exact ⟨0, Nat.zero_le _, rfl, by rw [HP0.out]; rfl, h0, KeepD.refl _ _, Nat.le_refl _⟩
  case round =>
    obtain ⟨k, hk, rfl, rfl, hJs, hkd, hws⟩ := hrel
    have HKd := Lib.hid hkd; have HJs := Lib.hid hJs; have HWs := Lib.hid hws
    by_cases hlt : k < N
    · obtain ⟨x, hx, x1, x8, hs, hs8⟩ := HWg.out k hlt
      obtain ⟨b, o, rfl, c0⟩ := (HX.out wr hkd).cellAt hx
      obtain ⟨fn, tmps, assign, body, hy0, hR⟩ := HY.out k wr hJs hws hlt
      simp only [encB, hs] at hy0
      have HSs := Lib.hid hs
      generalize psN ws k = f at *
      have z1 : wrap64 ((f : Int) + (x : Int)) = (f : Int) + (x : Int) := IntWalk.wrap64_in _ (by omega)
      have z2 : IntKind.i64.wrap ((f : Int) + (x : Int)) = (f : Int) + (x : Int) := IntWalk.i64_in _ (by omega)
      rw [show ((f + x : Nat) : Int) = (f : Int) + (x : Int) by omega] at hy0
      clear hx hkd hJs hws hs hb1
      gi_wp2
      refine ⟨(fun h => by cases h), hR.mono ?_⟩
      rintro e W3 ⟨rfl, hJ3, hk3, hs3⟩
      gi_wp2
      go_roundw
      case rel => exact ⟨k + 1, by omega, by go_num, by rw [HSs.out]; congr 1, hJ3, HKd.out.trans hk3, Nat.le_trans HWs.out hs3⟩
      case measure => simp [intOf]; omega
    · obtain rfl : k = N := by omega
      clear hlt hkd hws
      gi_wp2
      go_end0
      exact ⟨⟨_, rfl⟩, HJs.out⟩
def bandD (B : Nat) (sw : Value) : Nat → Prop := fun k => k = B ∨ sw.ownBlock = some k
theorem bands1_seq (B n : Nat) (x sw : Value) (ws : List Int) (w : World) (hw : isW ws = true) (hi : Ints w sw ws) (hb : w.heap[B]? = some (.cells #[x, sw] 51 (0, 0))) :
    SeqN Fence.wide n Try.prog 110 #[.pointer (some ⟨B, 0, none⟩)] (encB ws) (fun A A' => KeepD (bandD B sw) A A' ∧ A.heap.size ≤ A'.heap.size) 0 ws.length w := fun l J W hW hJ hY h0 => by
  have hne : ws ≠ [] := by
    rintro rfl
    have := (isW_ok hw).2.1
    simp at this
  have hk : KeepD (bandD B sw) w W := fun k hk => hW.block k (by
    rcases hk with rfl | hk
    · exact lt_of_block hb
    · exact hi.lt hne k hk)
  exact bands1_in l B n sw ws hw J (bandD B sw) W (fun V hV => hi.keepD (hk.trans hV) (fun _ b e => .inr e)) hJ
    (fun k V hj hv hlt => (hY k V hj hv hlt).mono fun e V' h => ⟨h.1, h.2.1, h.2.2.1.1, h.2.2.1.2⟩)
    ((hk.cell (p := ⟨B, 1, none⟩) (.inl rfl)).trans (blk_cell hb 1)) h0
end Go.Proofs.Ytopjjdfnnjgnlaa
