/- between: the bits of bytes by an iterator -/
import Derived.Test.YtjnbnhnkjhnbkaaAdd
import Derived.RangeFuncNested
import Derived.RangeFuncBound
import Derived.RangeFuncCalls
import Derived.RangeFuncLeaves
import Derived.Shelf.Abstract
import Derived.Shelf.RegionOpen
import Derived.OwnWalkIn
import Derived.TacticsInMore
import Derived.LoopNIn
import Derived.LoopIn
namespace Go.Proofs.Ytjnbnhnkjhnbkaa
open Go.RowKit Go.Shelf
attribute [local go_sem] Oper.semAt_some

abbrev Bit := { x : Nat // x ≤ 1 }
def KeepD (D : Nat → Prop) (A B : World) : Prop := ∀ k, D k → B.heap[k]? = A.heap[k]?
theorem KeepD.trans {D : Nat → Prop} {A B C : World} (h : KeepD D A B) (k : KeepD D B C) : KeepD D A C := fun i hi => (k i hi).trans (h i hi)
theorem KeepD.refl (D : Nat → Prop) (A : World) : KeepD D A A := fun _ _ => rfl
theorem KeepD.cell {D : Nat → Prop} {A B : World} (h : KeepD D A B) {p : Addr} (hp : D p.block) : B.cell? p = A.cell? p := World.cell?_of_block (w := A) (h p.block hp)
theorem Upd.keepD {S D : Nat → Prop} {A B : World} (h : Upd S A B) (hd : ∀ k, D k → k < A.heap.size ∧ ¬ S k) : KeepD D A B := fun k hk => h.block k (hd k hk).1 (hd k hk).2

/-- The slice sv holds the bytes zs. -/
def Bytes (W : World) (sv : Value) (zs : List Nat) : Prop :=
  (∀ j, zs.getD j 0 ≤ 255) ∧ ∃ a cap, sv = .slice a zs.length cap ∧ zs.length ≤ cap ∧ (zs = [] ∨ ∃ b off, a = some ⟨b, off, none⟩ ∧ ∀ j, j < zs.length → W.cell? ⟨b, off + j, none⟩ = some (.int .u8 (zs.getD j 0 : Nat)))
theorem Bytes.keep {W W' : World} {sv : Value} {zs : List Nat} (h : Bytes W sv zs) {D : Nat → Prop} (k : KeepD D W W') (hd : zs ≠ [] → ∀ b, sv.ownBlock = some b → D b) : Bytes W' sv zs := by
  obtain ⟨h1, a, cap, rfl, hlc, h2⟩ := h
  refine ⟨h1, a, cap, rfl, hlc, ?_⟩
  rcases h2 with h2 | ⟨b, off, rfl, h2⟩
  · exact .inl h2
  · exact .inr ⟨b, off, rfl, fun j hj => (k.cell (p := ⟨b, off + j, none⟩) (hd (by rintro rfl; simp at hj) b rfl)).trans (h2 j hj)⟩
def bitOf (zs : List Nat) (k : Nat) : Nat := zs.getD (k / 8) 0 / 2 ^ (7 - k % 8) % 2
def bitsOf (zs : List Nat) (s n : Nat) : List Nat := (List.range n).map fun i => bitOf zs (s + i)
theorem bitOf_le (zs : List Nat) (k : Nat) : bitOf zs k ≤ 1 := by unfold bitOf; omega
theorem bitsOf_succ (zs : List Nat) (s n : Nat) : bitsOf zs s (n + 1) = bitsOf zs s n ++ [bitOf zs (s + n)] := by simp [bitsOf, List.range_succ]
theorem bitsOf_take (zs : List Nat) (s : Nat) {k n : Nat} (h : k ≤ n) : bitsOf zs s k <+: bitsOf zs s n := by
  obtain ⟨d, rfl⟩ := Nat.exists_eq_add_of_le h
  induction d with
  | zero => exact List.prefix_refl _
  | succ d ih => rw [← Nat.add_assoc, bitsOf_succ]; exact (ih (by omega)).trans (List.prefix_append _ _)

theorem between_in (a : Option Addr) (len cap : Nat) (s t : Int) (w : World) :
    Calls Try.prog 64 #[.slice a len cap, .int .i64 s, .int .i64 t] w fun e w' =>
      e = .returned (.func (.func 94) #[] #[.pointer (some ⟨w.heap.size + 1, 0, none⟩), .pointer (some ⟨w.heap.size + 2, 0, none⟩), .pointer (some ⟨w.heap.size, 0, none⟩)]) ∧
      w' = ((w.alloc (.cells #[.slice a len cap] 32)).alloc (.cells #[.int .i64 s] 3)).alloc (.cells #[.int .i64 t] 3) := by
  go_enter Try.func64, Try.ntmps64
  go_wp2
  go_ret
  exact ⟨rfl, rfl⟩

set_option maxRecDepth 100000 in
set_option maxHeartbeats 1000000 in
theorem between1_in (l Bf Bt Bb : Nat) (sv : Value) (zs : List Nat) (s n N : Nat) (hN : n ≤ N) (hle : s + n ≤ 8 * zs.length) (hreach : zs.length ≤ 140737488355328)
    (J Jx : List Bit → World → Prop) (D : Nat → Prop) (hDf : D Bf) (hDt : D Bt) (hDb : D Bb) (hDs : zs ≠ [] → ∀ b, sv.ownBlock = some b → D b)
    (hY : ∀ pre x W, J pre W → pre.length < N → YieldAt Fence.wide 0 Try.prog l #[.int .i64 (x.1 : Nat)] W fun e W' =>
      (e = .returned (.bool true) ∧ J (pre ++ [x]) W' ∧ KeepD D W W') ∨ (e = .returned (.bool false) ∧ Jx (pre ++ [x]) W'))
    (W : World) (hf : W.cell? ⟨Bf, 0, none⟩ = some (.int .i64 s)) (ht : W.cell? ⟨Bt, 0, none⟩ = some (.int .i64 (s + n : Nat))) (hb : W.cell? ⟨Bb, 0, none⟩ = some sv)
    (hs : Bytes W sv zs) (h0 : J [] W) :
    CallsIn Fence.wide 1 Try.prog 94 #[.func (.yield l) #[] #[], .pointer (some ⟨Bf, 0, none⟩), .pointer (some ⟨Bt, 0, none⟩), .pointer (some ⟨Bb, 0, none⟩)] W fun e W' => (∃ v, e = .returned v) ∧
      ((∃ ys, ys.map Subtype.val = bitsOf zs s n ∧ J ys W') ∨ (∃ pre, pre.map Subtype.val <+: bitsOf zs s n ∧ Jx pre W')) := by
  refine callsIn_of_wp Try.func94 rfl trivial ?_ rfl
  simp only [Try.ntmps94, List.size_toArray, List.length_cons, List.length_nil, Nat.reduceAdd, Nat.reduceSub, Array.replicate_succ, Array.replicate_zero, List.push_toArray, List.append_toArray, List.nil_append, List.cons_append]
  gi_wp2
  gi_loopw [5] (fun i wr => ∃ (k : Nat) (ys : List Bit), k ≤ n ∧ i = .int .i64 (s + k : Nat) ∧ ys.map Subtype.val = bitsOf zs s k ∧ J ys wr ∧ KeepD D W wr)
    (fun i _ => s + n - (intOf i).toNat)
  case atStart => exact ⟨0, [], Nat.zero_le _, rfl, rfl, h0, KeepD.refl _ _⟩
  case round =>
    obtain ⟨k, ys, hk, rfl, hys, hJs, hkd⟩ := hrel
    have Hys := Lib.hid hys; clear hys
    have ef : wr.cell? ⟨Bf, 0, none⟩ = some (.int .i64 s) := (hkd.cell (p := ⟨Bf, 0, none⟩) hDf).trans hf
    have et : wr.cell? ⟨Bt, 0, none⟩ = some (.int .i64 (s + n : Nat)) := (hkd.cell (p := ⟨Bt, 0, none⟩) hDt).trans ht
    have eb : wr.cell? ⟨Bb, 0, none⟩ = some sv := (hkd.cell (p := ⟨Bb, 0, none⟩) hDb).trans hb
    have es := hs.keep hkd hDs
    by_cases hlt : k < n
    · obtain ⟨q, hq⟩ : ∃ q, q = s + k := ⟨_, rfl⟩
      obtain ⟨⟨x, hx⟩, hxb⟩ : ∃ xb : Bit, xb.1 = bitOf zs q := ⟨⟨_, bitOf_le _ _⟩, rfl⟩
      have hy0 := hY ys ⟨x, hx⟩ wr hJs (by have := congrArg List.length Hys.out; simp [bitsOf] at this; omega)
      obtain ⟨h255, a, cap, rfl, _, hz⟩ := es
      have hz' : zs ≠ [] := by rintro rfl; simp at hle; omega
      rcases hz with hz | ⟨b, off, rfl, hz⟩
      · exact absurd hz hz'
      have hz0 := hz (q / 8) (by omega)
      have hz1 := h255 (q / 8)
      rw [← hq]
      have hy1 : x = zs.getD (q / 8) 0 / 2 ^ (7 - q % 8) % 2 := hxb
      have hnext : (ys ++ [(⟨x, hx⟩ : Bit)]).map Subtype.val = bitsOf zs s (k + 1) := by
        rw [List.map_append, Hys.out, bitsOf_succ, ← hq, ← hxb]; rfl
      have Hnext := Lib.hid hnext; clear hnext
      have Hxb := Lib.hid hxb; clear hxb
      have hqn : q < s + n := by omega
      have hqz : q / 8 < zs.length := by omega
      obtain ⟨fn, tmps, assign, body, hy, hR⟩ := hy0
      dsimp only at hy
      have Hq := Lib.hid hq; clear hq
      generalize zs.getD (q / 8) 0 = z at *
      have hbit : Go.bits .and .u8 ((z : Int) / 2 ^ (7 - q % 8)) 1 = (x : Int) := and_one hz1 hy1
      have Hy1 := Lib.hid hy1; clear hy1
      have Hs := Lib.hid hs
      have Hz := Lib.hid hz
      have H2 := Lib.hid h255
      clear hs hz h255 hY
      gi_wp2
      refine hR.mono ?_
      rintro e W3 (⟨rfl, hJ3, hk3⟩ | ⟨rfl, hJx3⟩)
      · gi_wp2
        go_roundw
        case rel => exact ⟨k + 1, ys ++ [⟨x, hx⟩], by omega, by rw [Hq.out]; simp; omega, Hnext.out, hJ3, hkd.trans hk3⟩
        case measure => simp [intOf]; omega
      · gi_wp2
        refine bodyPost_ret (results_none rfl _ _ _) rfl ?_
        refine ⟨⟨_, rfl⟩, .inr ⟨ys ++ [⟨x, hx⟩], ?_, hJx3⟩⟩
        rw [Hnext.out]
        exact bitsOf_take zs s (show k + 1 ≤ n by omega)
    · obtain rfl : k = n := by omega
      clear hY
      gi_wp2
      go_end0
      exact ⟨⟨_, rfl⟩, .inl ⟨ys, Hys.out, hJs⟩⟩

abbrev encBit (x : Bit) : Array Value := #[.int .i64 (x.1 : Nat)]
def betweenLb (B : Nat) : Array Value := #[.pointer (some ⟨B + 1, 0, none⟩), .pointer (some ⟨B + 2, 0, none⟩), .pointer (some ⟨B, 0, none⟩)]
/-- The blocks that the iterator reads: its three boxes, and the bytes. -/
def betweenD (B : Nat) (sv : Value) (zs : List Nat) : Nat → Prop := fun k => k = B ∨ k = B + 1 ∨ k = B + 2 ∨ (zs ≠ [] ∧ sv.ownBlock = some k)
theorem between_seq (B : Nat) (sv : Value) (zs : List Nat) (s n : Nat) (w : World) (hle : s + n ≤ 8 * zs.length) (hreach : zs.length ≤ 140737488355328)
    (hf : w.cell? ⟨B + 1, 0, none⟩ = some (.int .i64 s)) (ht : w.cell? ⟨B + 2, 0, none⟩ = some (.int .i64 (s + n : Nat))) (hb : w.cell? ⟨B, 0, none⟩ = some sv)
    (hs : Bytes w sv zs) (hD : ∀ k, betweenD B sv zs k → k < w.heap.size) :
    SeqStopsK Fence.wide 1 Try.prog 94 (betweenLb B) encBit (KeepD (betweenD B sv zs)) (fun ys => ys.map Subtype.val = bitsOf zs s n) (fun pre => pre.map Subtype.val <+: bitsOf zs s n) n w := fun l J Jx W hW _ _ hY h0 => by
  have hk : KeepD (betweenD B sv zs) w W := fun k hk => hW.block k (hD k hk)
  refine between1_in l (B + 1) (B + 2) B sv zs s n n (Nat.le_refl _) hle hreach J Jx (betweenD B sv zs) (.inr (.inl rfl)) (.inr (.inr (.inl rfl))) (.inl rfl) (fun hz b h => .inr (.inr (.inr ⟨hz, h⟩))) hY W
    ((hk.cell (p := ⟨B + 1, 0, none⟩) (.inr (.inl rfl))).trans hf) ((hk.cell (p := ⟨B + 2, 0, none⟩) (.inr (.inr (.inl rfl)))).trans ht) ((hk.cell (p := ⟨B, 0, none⟩) (.inl rfl)).trans hb) ?_ h0
  exact hs.keep hk (fun hz b h => .inr (.inr (.inr ⟨hz, h⟩)))

theorem keepD_putObj {D : Nat → Prop} {W : World} {l : Nat} {o' : Obj} (hl : ¬ D l) : KeepD D W (W.putObj l o') := fun k hk => World.putObj_heap_other (fun e => hl (by rw [← e]; exact hk))

set_option maxRecDepth 100000 in
set_option maxHeartbeats 1000000 in
/-- feed: each item is handed to take. -/
theorem feed_in {gf K : Nat} {lb first cap : Array Value} {Kp : World → World → Prop} {S Sp : List Bit → Prop} {N : Nat} (w : World)
    (eg : ∀ args w, (callFunc gf args).run Try.prog w = .ok (.enter gf args) w) (eK : ∀ args w, (callFunc K args).run Try.prog w = .ok (.enter K args) w)
    (hseq : SeqStopsK Fence.wide 1 Try.prog gf lb encBit Kp S Sp N w)
    (hKt : ∀ {A B C : World}, Kp A B → Kp B C → Kp A C) (hKb : ∀ (W : World) (l : Nat) (o' : Obj), w.heap.size ≤ l → Kp W (W.putObj l o'))
    (I : List Bit → World → Prop) (hI : OwnFrom w.heap.size I) (h0 : I [] w)
    (hK : ∀ pre x W, I pre W → pre.length < N → W.heap[w.heap.size]? = some (.cells #[.func (.func K) first cap] 84 (0, 0)) → Calls Try.prog K (first.push (.int .i64 (x.1 : Nat)) ++ cap) W fun e W' => (∃ v, e = .returned v) ∧ I (pre ++ [x]) W' ∧ Kp W W' ∧ KeepsFrom w.heap.size W W' ∧ KeepD (fun k => k = w.heap.size) W W') :
    Calls Try.prog 63 #[.func (.func gf) #[] lb, .func (.func K) first cap] w fun e W' => e = .returned (.tuple #[]) ∧ ∃ ys, S ys ∧ I ys W' := by
  refine (callsIn_wide (n := 2)).1 ?_
  refine callsIn_of_wp_marks Try.func63 rfl trivial ?_ rfl
  simp only [Try.ntmps63, List.size_toArray, List.length_cons, List.length_nil, Nat.reduceAdd, Nat.reduceSub, Array.replicate_succ, Array.replicate_zero, List.push_toArray, List.append_toArray, List.nil_append, List.cons_append]
  have Hseq := Lib.hid hseq; clear hseq
  have HK := Lib.hid @hK; clear hK
  gi_wp2
  refine wpIn_rangeFunc_ownG rfl (by omega) (gf := gf) (lb := lb) rfl trivial eg Hseq.out hKt (fun W l o o' hl _ _ _ => hKb W l o' (by simp at hl; omega))
    ((Below.refl _ w).alloc (Nat.le_refl _) _) (fun _ => rfl)
    (fun pre W => I pre W ∧ W.heap[w.heap.size]? = some (.cells #[.func (.func K) first cap] 84 (0, 0)))
    (fun _ _ _ => False)
    (fun s A B row hs hg hr => ⟨hI s A B row hs.1 hg (fun r e => ⟨by have := (hr r e).1; simp at this; omega, (hr r e).2⟩), (hg.block _ (lt_of_block hs.2) (fun e => by have := (hr _ e.symm).1; simp at this; omega)).trans hs.2⟩)
    (fun _ _ _ _ _ hs _ _ => hs)
    ⟨hI.alloc _ h0, heap_alloc_new w _⟩
    (fun x => { tmps := #[.func (.func gf) #[] lb, .func (.func K) first cap, undef, .pointer (some ⟨w.heap.size, 0, none⟩), .int .i64 (x.1 : Nat), .func (.func gf) #[] lb, .int .i64 (x.1 : Nat), undef, undef, undef], defers := [] }) ?assign ?body ?done ?stop
  case assign =>
    intro l x W K hK
    gi_wp2
    exact hK
  case body =>
    rintro l pre x W ⟨hi, hb⟩ hN
    have hc : W.cell? ⟨w.heap.size, 0, none⟩ = some (.func (.func K) first cap) := cell_of_one hb
    have Hb := Lib.hid hb; clear hb
    gi_wp2
    refine ⟨trivial, rfl, ((callsIn_wide.2 (HK.out pre x W hi hN Hb.out)).inRound l).mono ?_⟩
    rintro e W' ⟨⟨v, rfl⟩, hi', hkp, hkf, hkd⟩
    gi_wp2
    exact ⟨⟨hkf.size, fun k o hk => hkf.same k o (by simp at hk; omega)⟩, hkp, hi', (hkd _ rfl).trans Hb.out⟩
  case done =>
    rintro D ys W hD hS ⟨hi, _⟩ hK
    gi_wp2
    refine ⟨by simp, .inl ⟨_, _, rfl, run_takeDeferred hK, ?_⟩⟩
    exact ⟨_, results_none rfl _ _ _, rfl, ys, hS, hI.putObj _ hi (by simp at hD; omega) hK rfl⟩
  case stop =>
    rintro D c pre W _ _ h _
    exact h.elim
end Go.Proofs.Ytjnbnhnkjhnbkaa
