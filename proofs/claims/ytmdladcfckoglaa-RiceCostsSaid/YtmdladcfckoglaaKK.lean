/- rice: the parameter that costs least -/
import Derived.Test.YtmdladcfckoglaaKV
namespace Go.Proofs.Ytmdladcfckoglaa
open Go.RowKit Go.Shelf
attribute [local go_sem] Oper.semAt_some

abbrev encP (i : Ix 15) : Array Value := #[.int .i64 (i.1 : Nat)]
set_option maxRecDepth 100000 in
set_option maxHeartbeats 1000000 in
theorem parameters_in (l : Nat) (J Jx : List (Ix 15) → World → Prop) (D : Nat → Prop)
    (hY : ∀ pre x W, J pre W → pre.length < 15 → YieldAt Fence.wide 0 Try.prog l (encP x) W fun e W' =>
      (e = .returned (.bool true) ∧ J (pre ++ [x]) W' ∧ KeepD D W W') ∨ (e = .returned (.bool false) ∧ Jx (pre ++ [x]) W'))
    (W : World) (h0 : J [] W) :
    CallsIn Fence.wide 1 Try.prog 87 #[.func (.yield l) #[] #[]] W fun e W' => (∃ v, e = .returned v) ∧
      ((∃ ys : List (Ix 15), ys.map Subtype.val = List.range 15 ∧ J ys W') ∨ (∃ pre : List (Ix 15), pre.map Subtype.val <+: List.range 15 ∧ Jx pre W')) := by
  refine callsIn_of_wp Try.func87 rfl trivial ?_ rfl
  simp only [Try.ntmps87, List.size_toArray, List.length_cons, List.length_nil, Nat.reduceAdd, Nat.reduceSub, Array.replicate_succ, Array.replicate_zero, List.push_toArray, List.append_toArray, List.nil_append, List.cons_append]
  have HY := Lib.hid @hY; clear hY
  gi_wp2
  gi_loopw [3] (fun i wr => ∃ (k : Nat) (ys : List (Ix 15)), k ≤ 15 ∧ i = .int .i64 k ∧ ys.map Subtype.val = List.range k ∧ J ys wr ∧ KeepD D W wr) (fun i _ => 15 - (intOf i).toNat)
  case atStart => exact ⟨0, [], Nat.zero_le _, rfl, rfl, h0, KeepD.refl _ _⟩
  case round =>
    obtain ⟨k, ys, hk, rfl, hys, hJs, hkd⟩ := hrel
    by_cases hlt : k < 15
    · have hl : ys.length < 15 := by
        have := congrArg List.length hys
        simp at this
        omega
      obtain ⟨fn, tmps, assign, body, hy0, hR⟩ := HY.out ys ⟨k, hlt⟩ wr hJs hl
      have hnext : (ys ++ [(⟨k, hlt⟩ : Ix 15)]).map Subtype.val = List.range (k + 1) := by rw [List.map_append, hys, List.range_succ]; rfl
      have Hnext := Lib.hid hnext; clear hnext
      have Hys := Lib.hid hys; clear hys
      simp only [encP] at hy0
      clear hl
      gi_wp2
      refine hR.mono ?_
      rintro e W3 (⟨rfl, hJ3, hk3⟩ | ⟨rfl, hJx3⟩)
      · gi_wp2
        go_roundw
        case rel => exact ⟨k + 1, _, by omega, by go_num, Hnext.out, hJ3, hkd.trans hk3⟩
        case measure => simp [intOf]; omega
      · gi_wp2
        refine bodyPost_ret (results_none rfl _ _ _) rfl ?_
        refine ⟨⟨_, rfl⟩, .inr ⟨_, ?_, hJx3⟩⟩
        rw [Hnext.out]
        obtain ⟨d, hd⟩ := Nat.exists_eq_add_of_le (show k + 1 ≤ 15 by omega)
        rw [hd]
        exact ⟨(List.range d).map (fun x => k + 1 + x), List.range_add.symm⟩
    · obtain rfl : k = 15 := by omega
      have Hys := Lib.hid hys; clear hys
      gi_wp2
      go_end0
      exact ⟨⟨_, rfl⟩, .inl ⟨_, Hys.out, hJs⟩⟩
theorem parameters_seq (D : Nat → Prop) (w : World) (_hD : ∀ k, D k → k < w.heap.size) :
    SeqStopsK Fence.wide 1 Try.prog 87 #[] encP (KeepD D) (fun ys => ys.map Subtype.val = List.range 15) (fun pre => pre.map Subtype.val <+: List.range 15) 15 w := fun l J Jx W _ _ _ hY h0 =>
  parameters_in l J Jx D hY W h0
theorem best1_any (B k : Nat) (f : Nat → Nat) (w : World) (h : CAt w B f) (hk : k < 15) :
    Calls Try.prog 88 #[.int .i64 (k : Int), .pointer (some ⟨B, 0, none⟩)] w fun e w' => e = .returned (.int .i64 (f k : Nat)) ∧ w = w' := by
  have c := h.cell hk
  have kk : (k : Int) < 15 := by omega
  clear h
  go_enter Try.func88, Try.ntmps88
  go_wp2
  go_ret
  exact ⟨rfl, rfl⟩
theorem last_ord {pre : List (Ix 15)} {x : Ix 15} (h : (pre ++ [x]).map Subtype.val = List.range (pre ++ [x]).length) : pre.map Subtype.val = List.range pre.length ∧ x.1 = pre.length := by
  rw [List.map_append, List.length_append, List.length_cons, List.length_nil, Nat.zero_add, List.range_succ] at h
  have := List.append_inj h (by simp)
  refine ⟨this.1, ?_⟩
  have h2 := this.2
  simpa using h2
/-- the best one so far, where they came in their order -/
def POk (f : Nat → Nat) (pre : List (Ix 15)) (b : Nat) (fd : Bool) : Prop := b < 15 ∧ (fd = true ↔ pre ≠ []) ∧ (pre.map Subtype.val = List.range pre.length → pre ≠ [] → b = amin f (pre.length - 1))
theorem POk.first {f : Nat → Nat} {pre : List (Ix 15)} {b : Nat} (h : POk f pre b false) (x : Ix 15) : POk f (pre ++ [x]) x.1 true := by
  have hp : pre = [] := by
    by_cases e : pre = []
    · exact e
    · have := h.2.1.2 e; cases this
  subst hp
  refine ⟨x.2, by simp, fun ho _ => ?_⟩
  have := (last_ord ho).2
  rw [this]; rfl
theorem POk.less {f : Nat → Nat} {pre : List (Ix 15)} {b : Nat} (h : POk f pre b true) (x : Ix 15) (hc : f x.1 < f b) : POk f (pre ++ [x]) x.1 true := by
  have hp := h.2.1.1 rfl
  refine ⟨x.2, by simp, fun ho _ => ?_⟩
  obtain ⟨h1, h2⟩ := last_ord ho
  have hb := h.2.2 h1 hp
  obtain ⟨m, hm⟩ : ∃ m, pre.length = m + 1 := Nat.exists_eq_succ_of_ne_zero (fun e => hp (List.eq_nil_of_length_eq_zero e))
  rw [List.length_append, show pre.length + [x].length - 1 = pre.length from rfl, hm, amin]
  rw [hm] at h2 hb
  rw [Nat.add_sub_cancel] at hb
  rw [h2] at hc ⊢
  rw [hb] at hc
  rw [if_pos hc]
theorem POk.more {f : Nat → Nat} {pre : List (Ix 15)} {b : Nat} (h : POk f pre b true) (x : Ix 15) (hc : ¬ f x.1 < f b) : POk f (pre ++ [x]) b true := by
  have hp := h.2.1.1 rfl
  refine ⟨h.1, by simp, fun ho _ => ?_⟩
  obtain ⟨h1, h2⟩ := last_ord ho
  have hb := h.2.2 h1 hp
  obtain ⟨m, hm⟩ : ∃ m, pre.length = m + 1 := Nat.exists_eq_succ_of_ne_zero (fun e => hp (List.eq_nil_of_length_eq_zero e))
  rw [List.length_append, show pre.length + [x].length - 1 = pre.length from rfl, hm, amin]
  rw [hm] at h2 hb
  rw [Nat.add_sub_cancel] at hb
  rw [h2, hb] at hc
  rw [if_neg hc]
  exact hb
theorem boxes3' (W : World) (o0 o1 o2 : Obj) : (((W.alloc o0).alloc o1).alloc o2).heap[W.heap.size]? = some o0 ∧ (((W.alloc o0).alloc o1).alloc o2).heap[W.heap.size + 1]? = some o1 ∧ (((W.alloc o0).alloc o1).alloc o2).heap[W.heap.size + 1 + 1]? = some o2 ∧ Upd NoB W (((W.alloc o0).alloc o1).alloc o2) := by
  have s1 : (W.alloc o0).heap.size = W.heap.size + 1 := by simp
  have s2 : ((W.alloc o0).alloc o1).heap.size = W.heap.size + 1 + 1 := by simp
  have h1 := heap_alloc_new (W.alloc o0) o1
  have h2 := heap_alloc_new ((W.alloc o0).alloc o1) o2
  rw [s1] at h1
  rw [s2] at h2
  have e1 : ∀ k, k < W.heap.size + 1 + 1 → (((W.alloc o0).alloc o1).alloc o2).heap[k]? = ((W.alloc o0).alloc o1).heap[k]? := fun k hk => Below.heap_alloc _ _ _ (by omega)
  have e2 : ∀ k, k < W.heap.size + 1 → ((W.alloc o0).alloc o1).heap[k]? = (W.alloc o0).heap[k]? := fun k hk => Below.heap_alloc _ _ _ (by omega)
  exact ⟨(e1 _ (by omega)).trans ((e2 _ (by omega)).trans (heap_alloc_new W _)), (e1 _ (by omega)).trans h1, h2, (((Upd.refl _ _).alloc _).alloc _).alloc _⟩
set_option maxRecDepth 100000 in
set_option maxHeartbeats 2000000 in
theorem leastP_any (B : Nat) (f : Nat → Nat) (w : World) (h : CAt w B f) (hf : ∀ k, k ≤ 14 → f k ≤ 466944) :
    Calls Try.prog 86 #[.func (.func 87) #[] #[], .func (.func 88) #[] #[.pointer (some ⟨B, 0, none⟩)]] w fun e w' => e = .returned (.int .i64 (amin f 14 : Nat)) ∧ Upd NoB w w' := by
  have hBw : B < w.heap.size := lt_of_block h
  have H := Lib.hid h; have HF := Lib.hid hf; clear h hf
  refine (callsIn_wide (n := 2)).1 ?_
  refine callsIn_of_wp_marks Try.func86 rfl trivial (wpIn_wide.2 ?_) rfl
  simp only [Try.ntmps86, List.size_toArray, List.length_cons, List.length_nil, Nat.reduceAdd, Nat.reduceSub, Array.replicate_succ, Array.replicate_zero, List.push_toArray, List.append_toArray, List.nil_append, List.cons_append]
  go_wp2_with fail
  obtain ⟨W, hW⟩ : ∃ W, W = ((w.alloc (.cells #[.func (.func 88) #[] #[.pointer (some ⟨B, 0, none⟩)]] 67)).alloc (.cells #[.int .i64 0] 3)).alloc (.cells #[.bool false] 4) := ⟨_, rfl⟩
  rw [← hW]
  obtain ⟨b0, b1, b2, hu⟩ := boxes3' w (.cells #[.func (.func 88) #[] #[.pointer (some ⟨B, 0, none⟩)]] 67) (.cells #[.int .i64 0] 3) (.cells #[.bool false] 4)
  rw [← hW] at b0 b1 b2 hu
  clear hW
  have hsz := lt_of_block b2
  go_wp2_with fail
  refine (wpIn_wide (n := 2)).1 (wpIn_rangeFunc_ownG rfl (by omega) (gf := 87) (lb := #[]) rfl trivial (enters_of Try.func87 (by kernel_rfl) rfl)
    (parameters_seq (fun _ => False) W (fun _ h => h.elim)) (fun h k => h.trans k)
    (fun W' l o o' hl _ _ _ => keepD_putObj (fun hd => hd)) (Below.refl _ _) (fun _ => rfl)
    (fun pre W' => (∃ (b : Nat) (fd : Bool), W'.heap[w.heap.size + 1]? = some (.cells #[.int .i64 (b : Nat)] 3 (0, 0)) ∧ W'.heap[w.heap.size + 1 + 1]? = some (.cells #[.bool fd] 4 (0, 0)) ∧ POk f pre b fd) ∧ Upd (fun k => k = w.heap.size + 1 ∨ k = w.heap.size + 1 + 1) W W')
    (fun _ _ _ => False) ?hI (fun _ _ _ _ _ hs _ _ => hs) ⟨⟨0, false, b1, b2, by decide, by simp, fun _ h => absurd rfl h⟩, Upd.refl _ _⟩
    (fun x => { tmps := #[.func (.func 87) #[] #[], .func (.func 88) #[] #[.pointer (some ⟨B, 0, none⟩)], undef, .pointer (some ⟨w.heap.size, 0, none⟩), .int .i64 0, .pointer (some ⟨w.heap.size + 1, 0, none⟩), .pointer (some ⟨w.heap.size + 1 + 1, 0, none⟩), .int .i64 (x.1 : Nat), .func (.func 87) #[] #[], .int .i64 (x.1 : Nat), undef, undef, undef, undef, undef, undef, undef, undef, undef, undef, undef, undef, undef], defers := [] }) ?assign ?body ?done ?stop)
  case hI =>
    rintro s A B' row ⟨⟨b, fd, h1, h2, h3⟩, h4⟩ hg hr
    refine ⟨⟨b, fd, (hg.block _ (lt_of_block h1) (fun e => ?_)).trans h1, (hg.block _ (lt_of_block h2) (fun e => ?_)).trans h2, h3⟩, h4.grown hg (fun k e hk => ?_)⟩
    · have := (hr _ e.symm).1; omega
    · have := (hr _ e.symm).1; omega
    · have := (hr k e).1; omega
  case assign =>
    intro l x W' K hK
    gi_wp2
    exact hK
  case body =>
    rintro l pre x W' ⟨⟨b, fd, hm1, hm2, hok⟩, hu'⟩ hN
    have hC : CAt W' B f := (show CAt W B f from hu.heap H.out (noB _)) |> fun h => hu'.heap h (by omega)
    have hb0 := hu'.heap b0 (by omega)
    have c0 : W'.cell? ⟨w.heap.size, 0, none⟩ = some (.func (.func 88) #[] #[.pointer (some ⟨B, 0, none⟩)]) := blk_cell hb0 0
    have c1 : W'.cell? ⟨w.heap.size + 1, 0, none⟩ = some (.int .i64 (b : Nat)) := blk_cell hm1 0
    have c2 : W'.cell? ⟨w.heap.size + 1 + 1, 0, none⟩ = some (.bool fd) := blk_cell hm2 0
    have f1 := blk_free hm1 0
    have f2 := blk_free hm2 0
    obtain ⟨x, hx⟩ := x
    simp only at *
    have Hm1 := Lib.hid hm1; have Hm2 := Lib.hid hm2; have Hu := Lib.hid hu'; have HC := Lib.hid hC
    clear hm1 hm2 hu' hC hb0
    cases fd with
    | false =>
      have Next := Lib.hid (hok.first ⟨x, hx⟩)
      clear hok b0 b1 b2
      gi_wp2
      refine region_still_in 10 (by kernel_rfl) (by kernel_rfl) (by kernel_rfl) (fun ⟨_, _, h⟩ => h) ?_
      simp only [List.take_succ_cons, List.take_zero, List.drop_succ_cons, List.drop_zero]
      repeat still_step
      refine wpStill_nil ?_
      change wpList _ _ _ _ _ (World.drew W')
      go_wp2_with fail
      gi_wp2
      have hall : Upd (fun k => k = w.heap.size + 1 ∨ k = w.heap.size + 1 + 1) W' ((W'.setCell ⟨w.heap.size + 1, 0, none⟩ (.int .i64 (x : Nat))).setCell ⟨w.heap.size + 1 + 1, 0, none⟩ (.bool true)).drew :=
        (((Upd.refl _ W').setCell _ (fun _ => .inl rfl)).setCell _ (fun _ => .inr rfl)).drew
      refine ⟨keeps_of_upd hall (fun k hB e => by omega), fun k hk => hk.elim, ⟨x, true, block_keep (block_set Hm1.out _) (by simp only; omega) _, block_set (block_keep Hm2.out (by simp only; omega) _) _, Next.out⟩, Hu.out.trans hall (fun _ _ h => h)⟩
    | true =>
      have hb15 := hok.1
      have b14 : b ≤ 14 := by omega
      have x14 : x ≤ 14 := by omega
      have hfb := HF.out b b14
      have hfx := HF.out x x14
      have HB1 := Lib.hid (show Calls Try.prog 88 #[.int .i64 (x : Int), .pointer (some ⟨B, 0, none⟩)] W'.drew fun e w' => e = .returned (.int .i64 (f x : Nat)) ∧ w' = W'.drew from (best1_any B x f W'.drew HC.out hx).mono fun _ _ h => ⟨h.1, h.2.symm⟩)
      have HB2 := Lib.hid (show Calls Try.prog 88 #[.int .i64 (b : Int), .pointer (some ⟨B, 0, none⟩)] W'.drew fun e w' => e = .returned (.int .i64 (f b : Nat)) ∧ w' = W'.drew from (best1_any B b f W'.drew HC.out hb15).mono fun _ _ h => ⟨h.1, h.2.symm⟩)
      by_cases hc : f x < f b
      · have Next := Lib.hid (hok.less ⟨x, hx⟩ hc)
        have t1 : decide ((f x : Int) < (f b : Int)) = true := decide_eq_true (by omega)
        have t2 : decide (f x < f b) = true := decide_eq_true hc
        clear hok b0 b1 b2 hc
        gi_wp2
        refine region_still_in 10 (by kernel_rfl) (by kernel_rfl) (by kernel_rfl) (fun ⟨_, _, h⟩ => h) ?_
        simp only [List.take_succ_cons, List.take_zero, List.drop_succ_cons, List.drop_zero]
        iterate 5 still_step
        still_call HB1.out
        iterate 2 still_step
        still_call HB2.out
        still_step
        refine wpStill_nil ?_
        change wpList _ _ _ _ _ (World.drew W')
        go_wp2_with fail
        gi_wp2
        have hall : Upd (fun k => k = w.heap.size + 1 ∨ k = w.heap.size + 1 + 1) W' ((W'.setCell ⟨w.heap.size + 1, 0, none⟩ (.int .i64 (x : Nat))).setCell ⟨w.heap.size + 1 + 1, 0, none⟩ (.bool true)).drew :=
          (((Upd.refl _ W').setCell _ (fun _ => .inl rfl)).setCell _ (fun _ => .inr rfl)).drew
        refine ⟨keeps_of_upd hall (fun k hB e => by omega), fun k hk => hk.elim, ⟨x, true, block_keep (block_set Hm1.out _) (by simp only; omega) _, block_set (block_keep Hm2.out (by simp only; omega) _) _, Next.out⟩, Hu.out.trans hall (fun _ _ h => h)⟩
      · have Next := Lib.hid (hok.more ⟨x, hx⟩ hc)
        have t1 : decide ((f x : Int) < (f b : Int)) = false := decide_eq_false (by omega)
        have t2 : decide (f x < f b) = false := decide_eq_false hc
        clear hok b0 b1 b2 hc
        gi_wp2
        refine region_still_in 10 (by kernel_rfl) (by kernel_rfl) (by kernel_rfl) (fun ⟨_, _, h⟩ => h) ?_
        simp only [List.take_succ_cons, List.take_zero, List.drop_succ_cons, List.drop_zero]
        iterate 5 still_step
        still_call HB1.out
        iterate 2 still_step
        still_call HB2.out
        still_step
        refine wpStill_nil ?_
        change wpList _ _ _ _ _ (World.drew W')
        go_wp2_with fail
        gi_wp2
        have hall : Upd (fun k => k = w.heap.size + 1 ∨ k = w.heap.size + 1 + 1) W' W'.drew := (Upd.refl _ W').drew
        exact ⟨keeps_of_upd hall (fun k hB e => by omega), fun k hk => hk.elim, ⟨b, true, Hm1.out, Hm2.out, Next.out⟩, Hu.out.trans hall (fun _ _ h => h)⟩
  case done =>
    rintro D ys W' hD' hS ⟨⟨b, fd, hm1, hm2, hok⟩, hu'⟩ hK
    have hlen : ys.length = 15 := by have := congrArg List.length hS; simpa using this
    have hb := hok.2.2 (by rw [hlen]; exact hS) (by intro e; rw [e] at hlen; simp at hlen)
    rw [hlen] at hb
    have hb : b = amin f 14 := hb
    have c1 : W'.cell? ⟨w.heap.size + 1, 0, none⟩ = some (.int .i64 (b : Nat)) := blk_cell hm1 0
    subst hb
    have HK := Lib.hid hK; have Hu := Lib.hid hu'
    clear hm1 hm2 hok hu' hK hS b0 b1 b2
    go_wp2
    refine ⟨by simp, .inl ⟨_, _, rfl, run_takeDeferred HK.out, ?_⟩⟩
    refine ⟨_, results_tmp rfl _ _ _, rfl, ?_⟩
    have hall : Upd (fun k => w.heap.size ≤ k) w (W'.putObj D (.deferred none)) :=
      ((hu.mono (T := fun k => w.heap.size ≤ k) (fun _ _ h => h.elim)).trans Hu.out (fun k _ h => by omega)).grown (grownBy_putObj' _ _ _) (fun k e hlt => by cases e; have := hu.size; omega)
    exact hall.mono (fun k hk h => by omega)
  case stop =>
    rintro D c pre W _ _ h _
    exact h.elim

set_option maxRecDepth 100000 in
set_option maxHeartbeats 1000000 in
theorem cbest_any (f : Nat → Nat) (w : World) (hf : ∀ k, k ≤ 14 → f k ≤ 466944) :
    Calls Try.prog 58 #[.agg (arrC f).toArray] w fun e w' => e = .returned (.int .i64 (amin f 14 : Nat)) ∧ Upd NoB w w' := by
  have hC : CAt (w.alloc (.cells (arrC f).toArray 70)) w.heap.size f := heap_alloc_new w _
  have HL := Lib.hid (leastP_any w.heap.size f _ hC hf)
  have U0 := Lib.hid ((Upd.refl NoB w).alloc (.cells (arrC f).toArray 70))
  clear hC hf
  generalize (arrC f).toArray = A at *
  go_enter Try.func58, Try.ntmps58
  go_wp2_with fail
  refine HL.out.mono ?_
  rintro e w2 ⟨rfl, u2⟩
  have U2 := Lib.hid (U0.out.then u2); clear u2
  go_wp2
  go_ret
  exact ⟨rfl, U2.out⟩
theorem arrC_one (f : Nat → Nat) : (arrC f).toArray.all (·.oneCell') = true := by
  rw [List.all_toArray, List.all_eq_true]
  intro v hv
  simp only [arrC, List.mem_map] at hv
  obtain ⟨q, _, rfl⟩ := hv
  rfl
theorem run_index_costs (f : Nat → Nat) (k : Nat) (hk : k < 15) (w : World) : (Instr.index 70 (.agg (arrC f).toArray) (.int .i64 (k : Int))).run Try.prog w = .ok (.int .i64 (f k : Nat)) w := by
  rcases (show k = 0 ∨ k = 1 ∨ k = 2 ∨ k = 3 ∨ k = 4 ∨ k = 5 ∨ k = 6 ∨ k = 7 ∨ k = 8 ∨ k = 9 ∨ k = 10 ∨ k = 11 ∨ k = 12 ∨ k = 13 ∨ k = 14 by omega) with rfl | rfl | rfl | rfl | rfl | rfl | rfl | rfl | rfl | rfl | rfl | rfl | rfl | rfl | rfl <;> kernel_rfl
set_option maxRecDepth 100000 in
set_option maxHeartbeats 1000000 in
theorem Cost_any (xv : Value) (xs : List Int) (k : Int) (w : World) (h : Ints w xv xs) : Calls Try.prog 17 #[xv, .int .i64 k] w fun e w' => e = .returned (.tuple #[.int .i64 (costS xs k), .int .i64 (costE xs k)]) ∧ Upd NoB w w' := by
  have HCk := Lib.hid (kcheck_any xv xs w h)
  cases hk : isPar k with
  | false =>
    have hE : costE xs k = 1 := if_pos hk
    have HS := Lib.hid (show costS xs k = 0 by unfold costS; rw [hE]; rfl)
    have HE := Lib.hid hE; have HK := Lib.hid hk
    clear h hE hk
    rw [HS.out, HE.out]
    go_enter Try.func17, Try.ntmps17
    go_wp2_with (go_at_call 53; refine (isParameter_any _ _).mono ?_; rw [HK.out]; rintro e w' ⟨rfl, rfl⟩)
    go_ret2
    exact ⟨rfl, Upd.refl _ _⟩
  | true =>
  have hE : costE xs k = listE xs := if_neg (by simp [hk])
  obtain ⟨k0, k1⟩ := isPar_yes hk
  have HK := Lib.hid hk
  obtain ⟨k, rfl⟩ := Int.eq_ofNat_of_zero_le k0
  by_cases h0 : listE xs = 0
  · have HS := Lib.hid (show costS xs k = (lc xs k : Nat) by unfold costS; rw [hE, if_pos h0, Int.toNat_natCast])
    have HE := Lib.hid (hE.trans h0)
    have HC := Lib.hid (costsOf_any xv xs w h (NumL.ofE h0))
    have hi := run_index_costs (lc xs) k (by omega)
    have H0 := Lib.hid h0
    clear hE h0 h hk k0 k1
    rw [HS.out, HE.out]
    rw [H0.out] at HCk
    generalize (arrC (lc xs)).toArray = A at *
    generalize lc xs k = z at *
    go_enter Try.func17, Try.ntmps17
    go_wp2_with (first | (go_at_call 53; refine (isParameter_any _ _).mono ?_; rw [HK.out]; rintro e w' ⟨rfl, rfl⟩) | (go_at_call 54; refine HCk.out.mono ?_; rintro e w' ⟨rfl, rfl⟩) | (go_at_call 55; refine HC.out.mono ?_; rintro e w2 ⟨rfl, u2⟩; have U2 := Lib.hid u2; clear u2))
    go_ret2
    exact ⟨rfl, U2.out⟩
  · have HS := Lib.hid (show costS xs k = 0 by unfold costS; rw [hE, if_neg h0])
    have HE := Lib.hid hE
    have t : (listE xs != 0) = true := by simpa using h0
    clear hE h0 h hk k0 k1
    rw [HS.out, HE.out]
    generalize listE xs = E at *
    go_enter Try.func17, Try.ntmps17
    go_wp2_with (first | (go_at_call 53; refine (isParameter_any _ _).mono ?_; rw [HK.out]; rintro e w' ⟨rfl, rfl⟩) | (go_at_call 54; refine HCk.out.mono ?_; rintro e w' ⟨rfl, rfl⟩))
    go_ret2
    exact ⟨rfl, Upd.refl _ _⟩
set_option maxRecDepth 100000 in
set_option maxHeartbeats 1000000 in
theorem Best_any (xv : Value) (xs : List Int) (w : World) (h : Ints w xv xs) : Calls Try.prog 19 #[xv] w fun e w' => e = .returned (.tuple #[.int .i64 (bestK xs), .int .i64 (bestC xs), .int .i64 (listE xs)]) ∧ Upd NoB w w' := by
  have HCk := Lib.hid (kcheck_any xv xs w h)
  by_cases h0 : listE xs = 0
  · have HK := Lib.hid (show bestK xs = (bst xs : Nat) from if_pos h0)
    have HS := Lib.hid (show bestC xs = (lc xs (bst xs) : Nat) from if_pos h0)
    have hn := NumL.ofE h0
    have HC := Lib.hid (costsOf_any xv xs w h hn)
    have hbst := bst_le xs
    have HB := Lib.hid (fun w' => cbest_any (lc xs) w' (fun k hk => lc_all_le hn hk))
    have HEq := Lib.hid (show amin (lc xs) 14 = bst xs from rfl)
    rw [HEq.out] at HB
    have H0 := Lib.hid h0
    clear h0 h hn
    rw [HS.out, HK.out, H0.out]
    rw [H0.out] at HCk
    have HG := Lib.hid (fun (w' : World) (B : Nat) (hb : CAt w' B (lc xs)) => hb.cell (show bst xs < 15 by omega))
    have h15 : bst xs < 15 := by omega
    have hsz : (arrC (lc xs)).toArray.size = 15 := by simp [arrC_len]
    have HSz := Lib.hid hsz
    have HOne := Lib.hid (arrC_one (lc xs))
    obtain ⟨A, hA⟩ : ∃ A, (arrC (lc xs)).toArray = A := ⟨_, rfl⟩
    have HA := Lib.hid hA
    rw [hA] at HC HB HSz HOne
    have h466 := lc_all_le (NumL.ofE H0.out) hbst
    clear hsz hA hbst
    generalize bst xs = m at *
    go_enter Try.func19, Try.ntmps19
    go_wp2_with (first | (go_at_call 54; refine HCk.out.mono ?_; rintro e w' ⟨rfl, rfl⟩))
    refine HC.out.mono ?_
    rintro e w2 ⟨rfl, u2⟩
    have U2 := Lib.hid u2; clear u2
    obtain ⟨W3, hW3⟩ : ∃ W3, W3 = (w2.alloc (.cells #[.int .i64 0, .int .i64 0, .int .i64 0, .int .i64 0, .int .i64 0, .int .i64 0, .int .i64 0, .int .i64 0, .int .i64 0, .int .i64 0, .int .i64 0, .int .i64 0, .int .i64 0, .int .i64 0, .int .i64 0] 70)).setRow w2.heap.size A := ⟨_, rfl⟩
    have c3 : W3.heap[w2.heap.size]? = some (.cells A 70 (0, 0)) := by rw [hW3]; exact setRow_heap _ _ _ _ _ _ (heap_alloc_new w2 _)
    have u3 : Upd NoB w2 W3 := by rw [hW3]; exact Upd.mono (S := fun k => w2.heap.size ≤ k) ((((Upd.refl _ w2).alloc _).setRow _ (fun _ => Nat.le_refl _))) (fun k hk h => by omega)
    have C3 := Lib.hid c3; have U3 := Lib.hid (U2.out.then u3); have HW3 := Lib.hid hW3
    clear c3 u3 hW3
    go_wp2_with (first | (refine wpList_store_row rfl 70 (.tmp 6) (.tmp 13) rfl w2.heap.size A rfl rfl 70 _ (heap_alloc_new w2 _) (by rw [HSz.out]; kernel_rfl) (by rw [HSz.out]; rfl) HOne.out ?_; rw [← HW3.out]) | (refine wpList_load_row rfl 70 (.tmp 6) rfl w2.heap.size rfl 70 A (0, 0) _ C3.out Try.underlying70 rfl (by rw [HSz.out]; kernel_rfl) ?_))
    refine (HB.out W3).mono ?_
    rintro e w4 ⟨rfl, u4⟩
    have hc4 : CAt w4 w2.heap.size (lc xs) := by unfold CAt; rw [HA.out]; exact u4.heap C3.out (noB _)
    have g4 := HG.out w4 _ hc4
    have U4 := Lib.hid (U3.out.then u4)
    have m15 : (m : Int) < 15 := by omega
    clear u4 hc4
    obtain ⟨z, hz⟩ : ∃ z, lc xs m = z := ⟨_, rfl⟩
    rw [hz] at g4 h466
    have HZ := Lib.hid hz; clear hz
    go_wp2_with fail
    go_quiet (fail)
    go_wp2
    go_ret3
    rw [HZ.out]
    exact ⟨rfl, upd_drewN U4.out _⟩
  · have HK := Lib.hid (show bestK xs = 0 from if_neg h0)
    have HS := Lib.hid (show bestC xs = 0 from if_neg h0)
    have t : (listE xs != 0) = true := by simpa using h0
    clear h0 h
    rw [HS.out, HK.out]
    generalize listE xs = E at *
    go_enter Try.func19, Try.ntmps19
    go_wp2_with (go_at_call 54; refine HCk.out.mono ?_; rintro e w' ⟨rfl, rfl⟩)
    go_ret3
    exact ⟨rfl, Upd.refl _ _⟩
end Go.Proofs.Ytmdladcfckoglaa
