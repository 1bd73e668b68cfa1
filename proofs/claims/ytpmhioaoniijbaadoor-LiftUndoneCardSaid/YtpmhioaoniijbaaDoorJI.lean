/- slices.All and slices.Backward over steps -/
import Derived.Test.YtpmhioaoniijbaaDoorJO
namespace Go.Proofs.YtpmhioaoniijbaaDoor
open Go.RowKit Go.Shelf
attribute [local go_sem] Oper.semAt_some

def noSp : Sp := ⟨0, 0, 0, 0, 0⟩
abbrev encS (ss : List Sp) (K : Nat) (x : Ix K) : Array Value := #[.int .i64 (x.1 : Nat), (ss.getD x.1 noSp).val]
theorem sps_cells {w : World} {g : Nat} {ss : List Sp} (h : Sps w g ss) {k : Nat} (hk : k < ss.length) :
    let s := ss.getD k noSp
    w.cell? ⟨g, k * 5, none⟩ = some (.int .i64 s.q) ∧ w.cell? ⟨g, k * 5 + 1, none⟩ = some (.int .i64 s.A) ∧ w.cell? ⟨g, k * 5 + 2, none⟩ = some (.int .i64 s.B) ∧ w.cell? ⟨g, k * 5 + 3, none⟩ = some (.int .i64 s.i) ∧ w.cell? ⟨g, k * 5 + 4, none⟩ = some (.int .i64 s.j) := by
  intro s
  obtain ⟨c, hc, h⟩ := h
  have hs : ss[k]? = some s := by simp [s, List.getD_eq_getElem?_getD, List.getElem?_eq_getElem hk]
  obtain ⟨a0, a1, a2, a3, a4⟩ := h k s hs
  exact ⟨(blk_cell hc _).trans a0, (blk_cell hc _).trans a1, (blk_cell hc _).trans a2, (blk_cell hc _).trans a3, (blk_cell hc _).trans a4⟩
theorem keepD_alloc {D : Nat → Prop} {W : World} (o : Obj) (h : ∀ k, D k → k < W.heap.size) : KeepD D W (W.alloc o) := fun k hk => Below.heap_alloc _ _ _ (h k hk)
theorem keepD_lt {D : Nat → Prop} {A B : World} (h : KeepD D A B) (hl : ∀ k, D k → k < A.heap.size) : ∀ k, D k → k < B.heap.size := fun k hk => by
  have e := h k hk
  rw [Array.getElem?_eq_getElem (hl k hk)] at e
  exact (Array.getElem?_eq_some_iff.1 e).1
theorem sps_keepD {D : Nat → Prop} {A B : World} {g : Nat} {ss : List Sp} (h : Sps A g ss) (k : KeepD D A B) (hg : D g) : Sps B g ss := by
  obtain ⟨c, hc, h⟩ := h
  exact ⟨c, (k g hg).trans hc, h⟩
set_option maxRecDepth 100000 in
set_option maxHeartbeats 1000000 in
theorem all1_in (l B g K : Nat) (ss : List Sp) (hlen : ss.length = K) (hK : K ≤ 1000000)
    (J Jx : List (Ix K) → World → Prop) (D : Nat → Prop) (hDB : D B) (hDg : D g)
    (hY : ∀ pre x W, J pre W → pre.length < K → YieldAt Fence.wide 0 Tryd.prog l (encS ss K x) W fun e W' =>
      (e = .returned (.bool true) ∧ J (pre ++ [x]) W' ∧ KeepD D W W') ∨ (e = .returned (.bool false) ∧ Jx (pre ++ [x]) W'))
    (W : World) (hA : AbidesFrom W.heap.size J) (hDl : ∀ k, D k → k < W.heap.size) (hb : W.cell? ⟨B, 0, none⟩ = some (.slice (some ⟨g, 0, none⟩) K K)) (hs : Sps W g ss) (h0 : J [] W) :
    CallsIn Fence.wide 1 Tryd.prog 84 #[.func (.yield l) #[] #[], .pointer (some ⟨B, 0, none⟩)] W fun e W' => (∃ v, e = .returned v) ∧
      ((∃ ys : List (Ix K), ys.map Subtype.val = List.range K ∧ J ys W') ∨ (∃ pre : List (Ix K), pre.map Subtype.val <+: List.range K ∧ Jx pre W')) := by
  refine callsIn_of_wp Tryd.func84 rfl trivial ?_ rfl
  simp only [Tryd.ntmps84, List.size_toArray, List.length_cons, List.length_nil, Nat.reduceAdd, Nat.reduceSub, Array.replicate_succ, Array.replicate_zero, List.push_toArray, List.append_toArray, List.nil_append, List.cons_append]
  have HY := Lib.hid @hY; clear hY
  have HA := Lib.hid hA; have HD := Lib.hid hDl; have HS := Lib.hid hs; clear hA hDl hs
  gi_wp2
  gi_loopw [7] (fun i wr => ∃ (k : Nat) (ys : List (Ix K)), k ≤ K ∧ i = .int .i64 k ∧ ys.map Subtype.val = List.range k ∧ J ys wr ∧ KeepD D W wr) (fun i _ => K - (intOf i).toNat)
  case atStart => exact ⟨0, [], Nat.zero_le _, rfl, rfl, h0, KeepD.refl _ _⟩
  case round =>
    obtain ⟨k, ys, hk, rfl, hys, hJs, hkd⟩ := hrel
    by_cases hlt : k < K
    · have hsp := sps_keepD HS.out hkd hDg
      obtain ⟨q0, q1, q2, q3, q4⟩ := sps_cells hsp (k := k) (by omega)
      have hl : ys.length < K := by
        have := congrArg List.length hys
        simp at this
        omega
      have hJ2 := HA.out ys wr (wr.alloc (.cells #[.int .i64 (ss.getD k noSp).q, .int .i64 (ss.getD k noSp).A, .int .i64 (ss.getD k noSp).B, .int .i64 (ss.getD k noSp).i, .int .i64 (ss.getD k noSp).j] 70)) none hJs (World.grownBy_alloc _ _ _) (fun r e => by cases e)
      have hk2 := hkd.trans (keepD_alloc (.cells #[.int .i64 (ss.getD k noSp).q, .int .i64 (ss.getD k noSp).A, .int .i64 (ss.getD k noSp).B, .int .i64 (ss.getD k noSp).i, .int .i64 (ss.getD k noSp).j] 70) (keepD_lt hkd HD.out))
      have b0 := heap_alloc_new wr (.cells #[.int .i64 (ss.getD k noSp).q, .int .i64 (ss.getD k noSp).A, .int .i64 (ss.getD k noSp).B, .int .i64 (ss.getD k noSp).i, .int .i64 (ss.getD k noSp).j] 70)
      obtain ⟨fn, tmps, assign, body, hy0, hR⟩ := HY.out ys ⟨k, hlt⟩ _ hJ2 hl
      have hnext : (ys ++ [(⟨k, hlt⟩ : Ix K)]).map Subtype.val = List.range (k + 1) := by rw [List.map_append, hys, List.range_succ]; rfl
      have Hnext := Lib.hid hnext; clear hnext
      have Hys := Lib.hid hys; clear hys
      simp only [encS, Sp.val] at hy0
      generalize ss.getD k noSp = s at *
      obtain ⟨q, A, B', i, j⟩ := s
      simp only at *
      obtain ⟨c0, c1, c2, c3, c4⟩ := cells5 b0
      have Hk2 := Lib.hid hk2; have HJs := Lib.hid hJs
      have ec : wr.cell? ⟨B, 0, none⟩ = some (.slice (some ⟨g, 0, none⟩) K K) := (hkd.cell (p := ⟨B, 0, none⟩) hDB).trans hb
      clear hl hsp hJ2 hk2 b0 hJs
      gi_wp2
      refine hR.mono ?_
      rintro e W3 (⟨rfl, hJ3, hk3⟩ | ⟨rfl, hJx3⟩)
      · gi_wp2
        go_roundw
        case rel => exact ⟨k + 1, _, by omega, by go_num, Hnext.out, hJ3, Hk2.out.trans hk3⟩
        case measure => simp [intOf]; omega
      · gi_wp2
        refine bodyPost_ret (results_none rfl _ _ _) rfl ?_
        refine ⟨⟨_, rfl⟩, .inr ⟨_, ?_, hJx3⟩⟩
        rw [Hnext.out]
        obtain ⟨d, rfl⟩ := Nat.exists_eq_add_of_le (show k + 1 ≤ K by omega)
        exact ⟨(List.range d).map (fun x => k + 1 + x), List.range_add.symm⟩
    · obtain rfl : k = K := by omega
      have Hys := Lib.hid hys; clear hys
      gi_wp2
      go_end0
      exact ⟨⟨_, rfl⟩, .inl ⟨_, Hys.out, hJs⟩⟩
def stepD (B g : Nat) : Nat → Prop := fun k => k = B ∨ k = g
theorem all_seq (B g K : Nat) (ss : List Sp) (w : World) (hlen : ss.length = K) (hK : K ≤ 1000000) (hb : w.cell? ⟨B, 0, none⟩ = some (.slice (some ⟨g, 0, none⟩) K K)) (hs : Sps w g ss) (hB : B < w.heap.size) (hg : g < w.heap.size) :
    SeqStopsK Fence.wide 1 Tryd.prog 84 #[.pointer (some ⟨B, 0, none⟩)] (encS ss K) (KeepD (stepD B g)) (fun ys => ys.map Subtype.val = List.range K) (fun pre => pre.map Subtype.val <+: List.range K) K w := fun l J Jx W hW hA _ hY h0 => by
  have hk : KeepD (stepD B g) w W := fun k hk => hW.block k (by rcases hk with rfl | rfl <;> omega)
  exact all1_in l B g K ss hlen hK J Jx (stepD B g) (.inl rfl) (.inr rfl) hY W hA (keepD_lt hk (fun k hk => by rcases hk with rfl | rfl <;> omega)) ((hk.cell (p := ⟨B, 0, none⟩) (.inl rfl)).trans hb) (sps_keepD hs hk (.inr rfl)) h0
theorem all_in (g K : Nat) (w : World) : Calls Tryd.prog 61 #[.slice (some ⟨g, 0, none⟩) K K] w fun e w' =>
    e = .returned (.func (.func 84) #[] #[.pointer (some ⟨w.heap.size, 0, none⟩)]) ∧ w' = w.alloc (.cells #[.slice (some ⟨g, 0, none⟩) K K] 62) := by
  go_enter Tryd.func61, Tryd.ntmps61
  go_wp2
  go_ret
  exact ⟨rfl, rfl⟩
end Go.Proofs.YtpmhioaoniijbaaDoor
