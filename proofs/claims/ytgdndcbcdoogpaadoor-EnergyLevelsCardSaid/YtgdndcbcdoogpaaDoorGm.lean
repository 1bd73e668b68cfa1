/- energy: slices.Chunk by m, slices.Collect over its pieces | energy: Blocks -/
import Derived.Test.YtgdndcbcdoogpaaDoorGl
namespace Go.Proofs.YtgdndcbcdoogpaaDoor
open Go.RowKit Go.Shelf
attribute [local go_sem] Oper.semAt_some

def KeepD (D : Nat → Prop) (A B : World) : Prop := ∀ k, D k → B.heap[k]? = A.heap[k]?
theorem KeepD.trans {D : Nat → Prop} {A B C : World} (h : KeepD D A B) (k : KeepD D B C) : KeepD D A C := fun i hi => (k i hi).trans (h i hi)
theorem KeepD.refl (D : Nat → Prop) (A : World) : KeepD D A A := fun _ _ => rfl
theorem KeepD.cell {D : Nat → Prop} {A B : World} (h : KeepD D A B) {p : Addr} (hp : D p.block) : B.cell? p = A.cell? p := World.cell?_of_block (w := A) (h p.block hp)
theorem Upd.keepD {S D : Nat → Prop} {A B : World} (h : Upd S A B) (hd : ∀ k, D k → k < A.heap.size ∧ ¬ S k) : KeepD D A B := fun k hk => h.block k (hd k hk).1 (hd k hk).2
theorem keepD_putObj {D : Nat → Prop} {W : World} {l : Nat} {o' : Obj} (hl : ¬ D l) : KeepD D W (W.putObj l o') := fun k hk => World.putObj_heap_other (fun e => hl (by rw [← e]; exact hk))
theorem keepD_lt {D : Nat → Prop} {A B : World} (h : KeepD D A B) (hl : ∀ k, D k → k < A.heap.size) : ∀ k, D k → k < B.heap.size := fun k hk => by
  have e := h k hk
  rw [Array.getElem?_eq_getElem (hl k hk)] at e
  exact (Array.getElem?_eq_some_iff.1 e).1
theorem notcells_grown {S : Nat → Prop} {W W' : World} (h : Upd S W W') (hs : ∀ k, S k → ∃ c t fr, W.heap[k]? = some (.cells c t fr)) (B : Nat) : KeepsFrom B W W' :=
  ⟨h.size, fun k o _ hk ho => h.heap hk (fun hS => by
    obtain ⟨c, t, fr, hc⟩ := hs k hS
    rw [hc] at hk; cases hk; cases ho)⟩
theorem grownBy_drewN (w : World) (n : Nat) : w.grownBy (w.drewN n) none := ⟨rfl, rfl, rfl, Nat.le_refl _, fun _ _ _ => rfl⟩
theorem keepD_drewN {D : Nat → Prop} {A B : World} (h : KeepD D A B) (n : Nat) : KeepD D A (B.drewN n) := h
/-! slices.Chunk, by m -/
abbrev encC (a : Option Addr) (m k : Nat) : Array Value := #[.slice (a.map (·.add (m * k))) m m]
theorem chunk_any (v : Value) (m : Nat) (w : World) (hm : 1 ≤ m) (hv : ∃ a n c, v = .slice a n c) : Calls Tryd.prog 82 #[v, .int .i64 m] w fun e w' =>
    e = .returned (.func (.func 100) #[] #[.pointer (some ⟨w.heap.size, 0, none⟩), .pointer (some ⟨w.heap.size + 1, 0, none⟩)]) ∧ w' = (w.alloc (.cells #[v] 22)).alloc (.cells #[.int .i64 m] 3) := by
  obtain ⟨a, n, c, rfl⟩ := hv
  have t1 : decide ((m : Int) < 1) = false := decide_eq_false (by omega)
  have t1n : decide (m < 1) = false := decide_eq_false (by omega)
  have t1z : ¬ m = 0 := by omega
  go_enter Tryd.func82, Tryd.ntmps82
  go_wp2
  go_ret
  exact ⟨rfl, rfl⟩
set_option maxRecDepth 100000 in
set_option maxHeartbeats 2000000 in
theorem chunk1_in (l B1 B2 n : Nat) (a : Option Addr) (m L cap M : Nat) (hm : 1 ≤ m) (hL : L = m * M) (hM : L ≤ 8192) (hcap : L ≤ cap) (J : Nat → World → Prop) (D : Nat → Prop) (hD1 : D B1) (hD2 : D B2)
    (W : World) (hJ : OwnM W.heap.size 0 J) (hY : ∀ k V, J k V → W.heap.size + 0 ≤ V.heap.size → k < M → YieldAt Fence.wide (n - 1) Tryd.prog l (encC a m k) V fun e V' => e = .returned (.bool true) ∧ J (k + 1) V' ∧ KeepD D V V' ∧ V.heap.size ≤ V'.heap.size)
    (hb1 : W.cell? ⟨B1, 0, none⟩ = some (.slice a L cap)) (hb2 : W.cell? ⟨B2, 0, none⟩ = some (.int .i64 m)) (h0 : J 0 W) :
    CallsIn Fence.wide n Tryd.prog 100 #[.func (.yield l) #[] #[], .pointer (some ⟨B1, 0, none⟩), .pointer (some ⟨B2, 0, none⟩)] W fun e W' => (∃ v, e = .returned v) ∧ J M W' := by
  refine callsIn_of_wp Tryd.func100 rfl trivial ?_ rfl
  simp only [Tryd.ntmps100, List.size_toArray, List.length_cons, List.length_nil, Nat.reduceAdd, Nat.reduceSub, Array.replicate_succ, Array.replicate_zero, List.push_toArray, List.append_toArray, List.nil_append, List.cons_append]
  have HY := Lib.hid @hY; clear hY
  have HJ := Lib.hid hJ; clear hJ
  have HLe := Lib.hid hL
  have hL2 : L ≤ 8192 := hM
  clear hL
  gi_wp2
  gi_loopw [4, 5] (fun i _ wr => ∃ k q : Nat, k ≤ M ∧ q = m * k ∧ i = .int .i64 q ∧ J k wr ∧ KeepD D W wr ∧ W.heap.size ≤ wr.heap.size) (fun i _ _ => L - (intOf i).toNat)
  case atStart => exact ⟨0, 0, Nat.zero_le _, by simp, rfl, h0, KeepD.refl _ _, Nat.le_refl _⟩
  case round =>
    obtain ⟨k, q, hk, hq, rfl, hJs, hkd, hws⟩ := hrel
    have e1 : wr.cell? ⟨B1, 0, none⟩ = some (.slice a L cap) := (hkd.cell (p := ⟨B1, 0, none⟩) hD1).trans hb1
    have e2 : wr.cell? ⟨B2, 0, none⟩ = some (.int .i64 m) := (hkd.cell (p := ⟨B2, 0, none⟩) hD2).trans hb2
    have hL := HLe.out
    by_cases hlt : k < M
    · have hk1 : m * (k + 1) ≤ m * M := Nat.mul_le_mul_left m (by omega)
      rw [Nat.mul_add, Nat.mul_one, ← hq, ← hL] at hk1
      have t1 : decide ((q : Int) < (L : Int)) = true := decide_eq_true (by omega)
      have t2 : decide (q < L) = true := decide_eq_true (by omega)
      have hr1 := fun w => run_slice_lo w a L cap q (by omega) hcap
      have hr2 := fun w => run_slice3 w a L cap q (q + m) (by omega) (by omega)
      rw [show ((q + m : Nat) : Int) = (q : Int) + (m : Int) by omega] at hr2
      rw [if_neg (by omega), Nat.mul_one, show q + m - q = m by omega] at hr2
      obtain ⟨A1, hA1⟩ : ∃ A, (if cap = q then a else a.map (fun p => p.add (q * 1))) = A := ⟨_, rfl⟩
      rw [hA1] at hr1
      have hmin : min (m : Int) ((L - q : Nat) : Int) = (m : Int) := by omega
      obtain ⟨R, hR0⟩ : ∃ R, L - q = R := ⟨_, rfl⟩
      rw [hR0] at hr1 hmin
      have hwq : IntKind.i64.wrap ((q : Int) + (m : Int)) = (q : Int) + (m : Int) := IntWalk.i64_in _ (by omega)
      have HQ := Lib.hid hq; have HKd := Lib.hid hkd; have HJs := Lib.hid hJs
      have HWs := Lib.hid hws
      have HHk := Lib.hid hk; have HLt := Lib.hid hlt
      have HqL := Lib.hid hk1
      clear hA1 hR0 hq hkd hJs hws hk hL hk1
      gi_wp2
      refine wpIn_wide.2 ?_
      go_quiet (fail)
      have hJ2 := HJ.out _ wr (wr.drewN nq) none HJs.out (grownBy_drewN wr nq) (fun r e => by cases e)
      obtain ⟨fn, tmps, assign, body, hy0, hR⟩ := HY.out k (wr.drewN nq) hJ2 HWs.out HLt.out
      simp only [encC, ← HQ.out] at hy0
      clear hJ2
      gi_wp2
      refine ⟨(fun h => by cases h), hR.mono ?_⟩
      rintro e W3 ⟨rfl, hJ3, hk3, hs3⟩
      have hkk := HKd.out.trans (KeepD.trans (keepD_drewN (KeepD.refl _ _) nq) hk3)
      have e3 : W3.cell? ⟨B2, 0, none⟩ = some (.int .i64 m) := (hkk.cell (p := ⟨B2, 0, none⟩) hD2).trans hb2
      gi_wp2
      go_roundw
      case rel => exact ⟨k + 1, q + m, by have := HLt.out; omega, by rw [Nat.mul_add, Nat.mul_one, ← HQ.out], by go_num, hJ3, hkk, Nat.le_trans HWs.out hs3⟩
      case measure => have := HqL.out; simp [intOf]; omega
    · obtain rfl : k = M := by omega
      have hqL : q = L := by rw [hq, hL]
      have t1 : decide ((q : Int) < (L : Int)) = false := decide_eq_false (by omega)
      have t2 : decide (q < L) = false := decide_eq_false (by omega)
      clear hL hq hqL
      gi_wp2
      go_end0
      exact ⟨⟨_, rfl⟩, hJs⟩
def chunkD (B : Nat) : Nat → Prop := fun k => k = B ∨ k = B + 1
theorem chunk1_seq (B n : Nat) (a : Option Addr) (m L cap M : Nat) (w : World) (hm : 1 ≤ m) (hL : L = m * M) (hM : L ≤ 8192) (hcap : L ≤ cap)
    (hb1 : w.cell? ⟨B, 0, none⟩ = some (.slice a L cap)) (hb2 : w.cell? ⟨B + 1, 0, none⟩ = some (.int .i64 m)) (hD : B + 1 < w.heap.size) :
    SeqN Fence.wide n Tryd.prog 100 #[.pointer (some ⟨B, 0, none⟩), .pointer (some ⟨B + 1, 0, none⟩)] (encC a m) (fun A A' => KeepD (chunkD B) A A' ∧ A.heap.size ≤ A'.heap.size) 0 M w := fun l J W hW hJ hY h0 => by
  have hk : KeepD (chunkD B) w W := fun k hk => hW.block k (by rcases hk with rfl | rfl <;> omega)
  exact chunk1_in l B (B + 1) n a m L cap M hm hL hM hcap J (chunkD B) (.inl rfl) (.inr rfl) W hJ (fun k V hj hv hlt => (hY k V hj hv hlt).mono fun e V' h => ⟨h.1, h.2.1, h.2.2.1.1, h.2.2.1.2⟩)
    ((hk.cell (p := ⟨B, 0, none⟩) (.inl rfl)).trans hb1) ((hk.cell (p := ⟨B + 1, 0, none⟩) (.inr rfl)).trans hb2) h0
set_option maxRecDepth 100000 in
set_option maxHeartbeats 2000000 in
theorem appendSeqS_any (gf : Nat) (lb : Array Value) (fa : Nat → Option Addr) (z : Nat) (D : Nat → Prop) (m N : Nat) (w : World) (eg : ∀ args w, (callFunc gf args).run Tryd.prog w = .ok (.enter gf args) w)
    (hseq : ∀ w0, Upd NoB w w0 → SeqN Fence.wide 1 Tryd.prog gf lb (fun k => #[.slice (fa k) z z]) (fun A A' => KeepD D A A' ∧ A.heap.size ≤ A'.heap.size) m N w0) (hD : ∀ k, D k → k < w.heap.size) (hN : N ≤ 100000) :
    Calls Tryd.prog 99 #[.slice none 0 0, .func (.func gf) #[] lb] w fun e w' => ∃ v, e = .returned v ∧ w'.ownsRow w.heap.size 22 1 v N ((List.range N).map fun k => Value.slice (fa k) z z) ∧ Upd NoB w w' := by
  obtain ⟨W, hW⟩ : ∃ W, W = w.alloc (.cells #[.slice none 0 0] 70) := ⟨_, rfl⟩
  have b0 : W.heap[w.heap.size]? = some (.cells #[.slice none 0 0] 70 (0, 0)) := by rw [hW]; exact heap_alloc_new w _
  have u0 : Upd NoB w W := by rw [hW]; exact (Upd.refl _ _).alloc _
  have hsz : w.heap.size < W.heap.size := lt_of_block b0
  have HS := Lib.hid (hseq W u0)
  have HW := Lib.hid hW; have U0 := Lib.hid u0; have B0 := Lib.hid b0
  obtain ⟨i0, hi, hz0, hz1, hz2⟩ := info_parts Tryd.infoSl
  clear hseq hW u0 b0
  refine (callsIn_wide (n := 2)).1 ?_
  refine callsIn_of_wp_marks Tryd.func99 rfl trivial (wpIn_wide.2 ?_) rfl
  simp only [Tryd.ntmps99, List.size_toArray, List.length_cons, List.length_nil, Nat.reduceAdd, Nat.reduceSub, Array.replicate_succ, Array.replicate_zero, List.push_toArray, List.append_toArray, List.nil_append, List.cons_append]
  go_wp2_with fail
  rw [← HW.out]
  refine (wpIn_wide (n := 2)).1 (wpIn_rangeN rfl (by omega) (gf := gf) (lb := lb) rfl trivial eg HS.out (fun h k => ⟨h.1.trans k.1, Nat.le_trans h.2 k.2⟩) (fun W' l o' hl => ⟨keepD_putObj (fun hd => by have := hD _ hd; omega), (grownBy_putObj' W' l o').size⟩) (Below.refl _ _) (fun _ => rfl)
    (fun k W' => (∃ v, W'.heap[w.heap.size]? = some (.cells #[v] 70 (0, 0)) ∧ W'.ownsRow (W.heap.size + 2 + m) 22 1 v k ((List.range k).map fun k => Value.slice (fa k) z z)) ∧ Upd (fun j => j = w.heap.size) W W')
    ?hI ⟨⟨_, B0.out, World.ownsRow_nil _ _ _ _⟩, Upd.refl _ _⟩
    (fun k a' _ => a' = { tmps := #[.slice none 0 0, .func (.func gf) #[] lb, .pointer (some ⟨w.heap.size, 0, none⟩), undef, .slice none 0 0, .slice (fa k) z z, .func (.func gf) #[] lb, .slice (fa k) z z, undef, undef, undef, undef, undef], defers := [] }) (fun _ _ _ _ _ _ hs _ _ => hs) ?assign ?body ?done)
  case hI =>
    rintro s A B' row ⟨⟨v, h1, h2⟩, h4⟩ hg hr
    refine ⟨⟨v, (hg.block _ (lt_of_block h1) (fun e => ?_)).trans h1, row_grown h2 hg (fun r e => ?_)⟩, h4.grown hg (fun k e hk => ?_)⟩
    · have := (hr _ e.symm).1; omega
    · rcases (hr r e).2 with h | h
      · exact .inl (by omega)
      · exact .inr h
    · have := (hr k e).1; omega
  case assign =>
    intro l k W' K hi hk hK
    gi_wp2
    exact hK _ _ (KeepsFrom.refl _ _) ⟨⟨KeepD.refl _ _, Nat.le_refl _⟩, Win.refl _ _ _⟩ hi rfl
  case body =>
    rintro l k a' W' ⟨⟨v, hm, hr⟩, hu⟩ rfl hVs hk
    have hvb : ∀ j, v.ownBlock = some j → W.heap.size + 2 + m ≤ j ∧ j < W'.heap.size := fun j hj => hr.lt j hj
    obtain ⟨va, vc, rfl⟩ := row_form hr
    obtain ⟨W5, hW5⟩ : ∃ W5, W5 = W'.alloc (.cells #[.slice (fa k) z z] 22) := ⟨_, rfl⟩
    have u5 : Upd NoB W' W5 := by rw [hW5]; exact (Upd.refl _ _).alloc _
    have n5 : W5.heap[W'.heap.size]? = some (.cells #[.slice (fa k) z z] 22 (0, 0)) := by rw [hW5]; exact heap_alloc_new W' _
    have HR5 := Lib.hid (u5.row hr (fun k _ => noB k)); have HW5 := Lib.hid hW5; have U5 := Lib.hid u5
    have N5 : Hid (∀ (j : Nat) (u : Value), [Value.slice (fa k) z z][j]? = some u → W5.cell? ((⟨W'.heap.size, 0, none⟩ : Addr).add j) = some u) := Lib.hid (World.news_of_block n5)
    have hb1 := Lib.hid (show k + 1 ≤ maxLen by unfold maxLen; omega)
    have hb2 := Lib.hid (show (k + 1) * 24 ≤ 140737488355328 by omega)
    have hb3 := Lib.hid (show W.heap.size + 2 + m ≤ W5.heap.size by have := u5.size; omega)
    have HM := Lib.hid hm; have HR := Lib.hid hr; have HU := Lib.hid hu; have HVB := Lib.hid hvb
    have HT := Lib.hid (U5.out.heap hm (noB _))
    have c0 : W'.cell? ⟨w.heap.size, 0, none⟩ = some (.slice va k vc) := blk_cell hm 0
    have HMap := Lib.hid (mp_succ (fun k => Value.slice (fa k) z z) k)
    have hlw : w.heap.size < W'.heap.size := lt_of_block hm
    clear hm hr hu hvb u5 n5 hW5
    generalize (List.range k).map (fun k => Value.slice (fa k) z z) = ys at *
    generalize fa k = xa at *
    gi_wp2_with (first | (rw [← HW5.out]; refine wpListIn_append_own W5 rfl (.tmp 8) (.tmp 10) 70 rfl (W.heap.size + 2 + m) 22 i0 (.slice none 0 0) 1 24 Tryd.underlying70 hi hz0 hz1 hz2 rfl (by decide) (.slice va k vc) k ys rfl HR5.out ⟨W'.heap.size, 0, none⟩ 1 1 [.slice xa z z] rfl rfl N5.out (by intro u hu; rw [List.mem_singleton] at hu; subst hu; rfl) hb1.out hb2.out hb3.out ?_; intro v6 w6 hown6 hg6 _; have M6 := Lib.hid ((hg6.block _ (lt_of_block HT.out) (fun e => by have := (HVB.out _ e.symm).1; omega)).trans HT.out); have d6 := blk_cell M6.out 0; have f6 := blk_free M6.out 0; have R6 := Lib.hid hown6; have G6 := Lib.hid hg6; obtain ⟨a6, c6, rfl⟩ := row_form hown6; clear hown6 hg6))
    have u9 : Upd (fun j => j = w.heap.size ∨ (Value.slice va k vc).ownBlock = some j) W' (w6.setCell ⟨w.heap.size, 0, none⟩ (.slice a6 (k + 1) c6)) :=
      ((U5.out.mono (T := fun j => j = w.heap.size ∨ (Value.slice va k vc).ownBlock = some j) (fun _ _ h => h.elim)).grown G6.out (fun j hj _ => .inr hj)).setCell _ (fun _ => .inl rfl)
    have u10 : Upd (fun j => j = w.heap.size) w6 (w6.setCell ⟨w.heap.size, 0, none⟩ (.slice a6 (k + 1) c6)) := (Upd.refl _ w6).setCell _ (fun _ => rfl)
    refine ⟨notcells_grown u9 (fun j hj => ?_) _, ⟨⟨fun j hj => u9.block j (by have := hD j hj; omega) (fun e => ?_), u9.size⟩, fun j hj1 hj2 => u9.block j (by omega) (fun e => ?_)⟩, ⟨⟨_, block_set M6.out _, ?_⟩, ?_⟩⟩
    · rcases hj with rfl | hj
      · exact ⟨_, _, _, HM.out⟩
      · rcases HR.out.2 with ⟨e, _⟩ | ⟨g, cp, cur, e, _, hg, _⟩
        · rw [e] at hj; simp [Value.ownBlock] at hj
        · rw [e] at hj
          have : g = j := by simpa [Value.ownBlock] using hj
          subst this
          exact ⟨_, _, _, hg⟩
    · have := hD j hj
      rcases e with e | e
      · omega
      · have := (HVB.out j e).1; omega
    · rcases e with e | e
      · omega
      · have := (HVB.out j e).1; omega
    · rw [HMap.out]
      exact u10.row R6.out (fun j hj e => by have := (R6.out.lt j hj).1; omega)
    · exact ((HU.out.then U5.out).grown G6.out (fun j hj hlt => by have := (HVB.out j hj).1; omega)).trans u10 (fun _ _ h => h)
  case done =>
    rintro D' W' hD' ⟨⟨v, hm, hr⟩, hu⟩ hK
    have c0 : W'.cell? ⟨w.heap.size, 0, none⟩ = some v := blk_cell hm 0
    have HR := Lib.hid hr; have HU := Lib.hid hu; have HK := Lib.hid hK
    clear hm hr hu hK
    go_wp2
    refine ⟨by simp, .inl ⟨_, _, rfl, run_takeDeferred HK.out, ?_⟩⟩
    refine ⟨_, results_tmp rfl _ _ _, v, rfl, ?_, ?_⟩
    · exact row_base (row_grown HR.out (grownBy_putObj' _ _ _) (fun r e => by cases e; exact .inr ⟨_, HK.out, rfl⟩)) (by omega)
    · have hall : Upd (fun j => w.heap.size ≤ j) w (W'.putObj D' (.deferred none)) :=
        (((U0.out.mono (T := fun j => w.heap.size ≤ j) (fun _ _ h => h.elim)).trans HU.out (fun k _ h => by omega))).grown (grownBy_putObj' _ _ _) (fun k e hlt => by cases e; omega)
      exact hall.mono (fun k hk h => by omega)
end Go.Proofs.YtgdndcbcdoogpaaDoor

namespace Go.Proofs.YtgdndcbcdoogpaaDoor
open Go.RowKit Go.Shelf

def bkL (c : List Int) : List (List Int) := (List.range 8).map fun k => (c.drop (16 * k)).take 16
def blE (c : List Int) : Int := if c.length = 128 then (if inB (-2097152) 2097152 c then 0 else 6) else 4
def blS (c : List Int) : List Int := if blE c = 0 then (bkL c).map sqs else []
theorem blE_ok {c : List Int} (h : blE c = 0) : c.length = 128 ∧ CoB c := by
  unfold blE at h
  by_cases h1 : c.length = 128
  · rw [if_pos h1] at h
    refine ⟨h1, coB_of ?_⟩
    cases e : inB (-2097152) 2097152 c with
    | true => rfl
    | false => rw [e] at h; simp at h
  · rw [if_neg h1] at h; cases h
theorem bkL_get {c : List Int} {k : Nat} {xs : List Int} (hl : c.length = 128) (h : (bkL c)[k]? = some xs) : k < 8 ∧ xs = (c.drop (16 * k)).take 16 ∧ xs.length = 16 := by
  have hk := (List.getElem?_eq_some_iff.1 h).1
  unfold bkL at hk h
  rw [List.length_map, List.length_range] at hk
  rw [List.getElem?_map, List.getElem?_range hk] at h
  simp only [Option.map_some, Option.some.injEq] at h
  subst h
  refine ⟨hk, rfl, ?_⟩
  rw [List.length_take, List.length_drop, hl]; omega
theorem bkL_ok {c : List Int} (hl : c.length = 128) (hc : CoB c) {k : Nat} {xs : List Int} (h : (bkL c)[k]? = some xs) : CoB xs ∧ 0 < xs.length ∧ xs.length ≤ 300 := by
  obtain ⟨hk, e, h16⟩ := bkL_get hl h
  refine ⟨fun j x hj => ?_, by omega, by omega⟩
  have hm := List.mem_of_getElem? hj
  rw [e] at hm
  obtain ⟨i, hi⟩ := List.getElem?_of_mem (List.mem_of_mem_drop (List.mem_of_mem_take hm))
  exact hc i x hi
theorem Ints.sub {w : World} {b off n cap : Nat} {xs ys : List Int} (h : Ints w (.slice (some ⟨b, off, none⟩) n cap) xs) (f m c2 : Nat) (hy : (xs.drop f).take m = ys) (hc : ys.length ≤ c2) (hb : ys.length ≤ 1000000) : Ints w (.slice (some ⟨b, off + f, none⟩) ys.length c2) ys := by
  refine ⟨by omega, _, _, rfl, ⟨hc, fun e => by cases e⟩, .inr ⟨b, off + f, rfl, fun j x hx => ?_⟩⟩
  rw [← hy, List.getElem?_take] at hx
  split at hx
  · rw [List.getElem?_drop] at hx
    obtain ⟨b', o', e, hc'⟩ := h.cellAt hx
    cases e
    rw [Nat.add_assoc]; exact hc'
  · cases hx
theorem parts_chunks {w : World} {B : Nat} {v : Value} {ca : Option Addr} {cc : Nat} {c : List Int} (hl : c.length = 128) (hc : Ints w (.slice ca 128 cc) c) (hr : w.ownsRow B 22 1 v 8 ((List.range 8).map fun k => Value.slice (ca.map (·.add (16 * k))) 16 16)) : ∃ a n k, v = .slice a n k ∧ Parts w (.slice a n k) (bkL c) := by
  obtain ⟨b, q, rfl⟩ := row_slice hr (by decide)
  refine ⟨_, _, _, rfl, b, q, rfl, fun k xs hk => ?_⟩
  obtain ⟨hk8, e, h16⟩ := bkL_get hl hk
  obtain ⟨x0, hx0⟩ : ∃ x, c[0]? = some x := ⟨_, List.getElem?_eq_getElem (by omega)⟩
  obtain ⟨b', off, e', _⟩ := hc.cellAt hx0
  subst e'
  have hrk := hr.cellAt k (by omega)
  rw [List.getElem?_map, List.getElem?_range hk8] at hrk
  simp only [Option.map_some, addr_add] at hrk
  rw [h16]
  refine ⟨_, _, hrk, ?_⟩
  have := Ints.sub hc (16 * k) 16 16 e.symm (by omega) (by omega)
  rw [h16] at this
  exact this
set_option maxRecDepth 100000 in
set_option maxHeartbeats 2000000 in
theorem collect_any (B : Nat) (a : Option Addr) (cap : Nat) (w : World) (hcap : 128 ≤ cap) (hb1 : w.cell? ⟨B, 0, none⟩ = some (.slice a 128 cap)) (hb2 : w.cell? ⟨B + 1, 0, none⟩ = some (.int .i64 (16 : Nat))) (hD : B + 1 < w.heap.size) :
    Calls Tryd.prog 81 #[.func (.func 100) #[] #[.pointer (some ⟨B, 0, none⟩), .pointer (some ⟨B + 1, 0, none⟩)]] w fun e w' => ∃ v, e = .returned v ∧ w'.ownsRow w.heap.size 22 1 v 8 ((List.range 8).map fun k => Value.slice (a.map (·.add (16 * k))) 16 16) ∧ Upd NoB w w' := by
  have HS := Lib.hid (appendSeqS_any 100 #[.pointer (some ⟨B, 0, none⟩), .pointer (some ⟨B + 1, 0, none⟩)] (fun k => a.map (·.add (16 * k))) 16 (chunkD B) 0 8 w (enters_of Tryd.func100 (by kernel_rfl) rfl)
    (fun w0 u => chunk1_seq B 1 a 16 128 cap 8 w0 (by decide) (by decide) (by decide) hcap (u.cell hb1 (noB _)) (u.cell hb2 (noB _)) (Nat.lt_of_lt_of_le hD u.size)) (fun k hk => by rcases hk with rfl | rfl <;> omega) (by decide))
  clear hb1 hb2
  go_enter Tryd.func81, Tryd.ntmps81
  go_wp2_with fail
  refine HS.out.mono ?_
  rintro e w1 ⟨v, rfl, r1, u1⟩
  obtain ⟨a1, c1, rfl⟩ := row_form r1
  have R1 := Lib.hid r1; have U1 := Lib.hid u1
  clear r1 u1
  go_wp2_with fail
  go_ret
  exact ⟨_, rfl, R1.out, U1.out⟩
set_option maxRecDepth 100000 in
set_option maxHeartbeats 4000000 in
theorem Blocks_any (cv : Value) (c : List Int) (w : World) (hc : Ints w cv c) : Calls Tryd.prog 45 #[cv] w (EInts w (blS c) (blE c)) := by
  have HA := Lib.hid (areCoef_any cv c w hc)
  obtain ⟨ca, cc, rfl⟩ := hc.form
  by_cases hn : c.length = 128
  · have HE0 := Lib.hid (show blE c = if inB (-2097152) 2097152 c then 0 else 6 from if_pos hn)
    cases hin : inB (-2097152) 2097152 c with
    | false =>
      have HE := Lib.hid (show blE c = 6 by rw [HE0.out, hin]; rfl)
      have HS := Lib.hid (show blS c = [] from if_neg (by rw [HE.out]; decide))
      rw [HE.out, HS.out]
      rw [hin] at HA
      rw [hn] at HA ⊢
      clear hc hn hin
      go_enter Tryd.func45, Tryd.ntmps45
      go_wp2_with fail
      refine HA.out.mono ?_
      rintro e w1 ⟨rfl, u1⟩
      have U1 := Lib.hid u1
      clear u1
      go_wp2_with fail
      go_ret2
      exact ⟨none, 0, 0, rfl, World.ownsRow_nil _ _ _ _, U1.out⟩
    | true =>
      have HE := Lib.hid (show blE c = 0 by rw [HE0.out, hin]; rfl)
      have HS := Lib.hid (show blS c = (bkL c).map sqs from if_pos HE.out)
      have HOk := Lib.hid (fun k xs (hx : (bkL c)[k]? = some xs) => bkL_ok hn (coB_of hin) hx)
      have HLn := Lib.hid (show ((bkL c).map sqs).length = 8 by unfold bkL; simp)
      have HL8 := Lib.hid (show (bkL c).length = 8 by unfold bkL; simp)
      have HCn := Lib.hid hn
      have hcap : 128 ≤ cc := by
        obtain ⟨_, a', c', e, ⟨hcc, _⟩, _⟩ := hc
        injection e with _ _ e3
        rw [hn] at hcc
        omega
      have HC := Lib.hid (show ∀ w', Upd NoB w w' → Ints w' (.slice ca 128 cc) c from fun w' u => by rw [← hn]; exact hc.later u)
      rw [HE.out, HS.out]
      rw [hin] at HA
      rw [hn] at HA ⊢
      clear hc hn hin
      go_enter Tryd.func45, Tryd.ntmps45
      go_wp2_with fail
      refine HA.out.mono ?_
      rintro e w1 ⟨rfl, u1⟩
      have U1 := Lib.hid u1
      clear u1
      go_wp2_with fail
      refine (chunk_any _ 16 w1 (by decide) ⟨_, _, _, rfl⟩).mono ?_
      rintro e w2 ⟨rfl, hw2⟩
      have u2 : Upd NoB w1 w2 := by rw [hw2]; exact ((Upd.refl _ _).alloc _).alloc _
      have b1 : w2.heap[w1.heap.size]? = some (.cells #[.slice ca 128 cc] 22 (0, 0)) := by rw [hw2]; exact ((Upd.refl NoB _).alloc _).heap (heap_alloc_new w1 _) (noB _)
      have b2 : w2.heap[w1.heap.size + 1]? = some (.cells #[.int .i64 (16 : Nat)] 3 (0, 0)) := by
        have s1 : (w1.alloc (.cells #[.slice ca 128 cc] 22)).heap.size = w1.heap.size + 1 := by simp
        rw [hw2, ← s1]; exact heap_alloc_new _ _
      have HCo := Lib.hid (collect_any w1.heap.size ca cc w2 hcap (blk_cell b1 0) (blk_cell b2 0) (lt_of_block b2))
      have U2 := Lib.hid (U1.out.then u2)
      clear u2 b1 b2 hw2
      go_wp2_with fail
      refine HCo.out.mono ?_
      rintro e w3 ⟨v3, rfl, r3, u3⟩
      have U3 := Lib.hid (U2.out.then u3)
      obtain ⟨pa, pn, pc, e, hP⟩ := parts_chunks HCn.out (HC.out w3 U3.out) r3
      cases e
      have HP := Lib.hid hP
      clear r3 u3 hP
      go_wp2_with fail
      refine (eachEn_any _ (bkL c) sqs w3 HP.out (by rw [HL8.out]; decide) (fun k x xa xc w' hx _ ix => (energyOf_any _ x w' ix (HOk.out k x hx).1 (HOk.out k x hx).2.2).mono (by rintro r w'' ⟨rfl, rfl⟩; exact ⟨rfl, Upd.refl _ _⟩))).mono ?_
      rintro e w4 ⟨v4, rfl, r4, u4⟩
      rw [HLn.out] at r4
      obtain ⟨a4, c4, rfl⟩ := row_form r4
      have R4 := Lib.hid (row_base r4 U3.out.size); have U4 := Lib.hid (U3.out.then u4)
      clear r4 u4
      go_wp2_with fail
      go_ret2
      exact ⟨_, _, _, rfl, by rw [HLn.out]; exact R4.out, U4.out⟩
  · have HE := Lib.hid (show blE c = 4 from if_neg hn)
    have HS := Lib.hid (show blS c = [] from if_neg (by rw [HE.out]; decide))
    have t1 : ((c.length : Int) != 128) = true := by rw [bne_iff_ne]; omega
    rw [HE.out, HS.out]
    generalize c.length = n at *
    clear hc hn
    go_enter Tryd.func45, Tryd.ntmps45
    go_wp2_with fail
    go_ret2
    exact ⟨none, 0, 0, rfl, World.ownsRow_nil _ _ _ _, Upd.refl _ _⟩
end Go.Proofs.YtgdndcbcdoogpaaDoor
