/- linear: the predictor -/
import Derived.Test.YtopjjdfnnjgnlaaTF
namespace Go.Proofs.Ytopjjdfnnjgnlaa
open Go.RowKit Go.Shelf

theorem int_size : (Try.prog.info? 3).map (·.size) = some 1 := by kernel_rfl
/-- a predictor in block P: its weights' slice, and what it has seen -/
def PrAt (w : World) (P : Nat) (sw : Value) (s : List Int) : Prop := w.heap[P]? = some (.cells (sw :: i64s s).toArray 81 (0, 0))
theorem PrAt.seen {w : World} {P : Nat} {sw : Value} {s : List Int} (h : PrAt w P sw s) (hl : s.length = 12) : Ints w (.slice (some ⟨P, 1, none⟩) 12 12) s := by
  refine ⟨by omega, some ⟨P, 1, none⟩, 12, by rw [hl], ⟨by omega, fun e => by cases e⟩, .inr ⟨P, 1, rfl, fun j x hx => ?_⟩⟩
  unfold PrAt at h
  rw [blk_cell h, List.getElem?_toArray, Nat.add_comm, List.getElem?_cons_succ, i64s_get, hx]
  rfl
theorem PrAt.weights {w : World} {P : Nat} {sw : Value} {s : List Int} (h : PrAt w P sw s) : w.cell? ⟨P, 0, none⟩ = some sw := by
  unfold PrAt at h
  rw [blk_cell h]
  rfl
theorem PrAt.upd {S : Nat → Prop} {w w' : World} {P : Nat} {sw : Value} {s : List Int} (h : PrAt w P sw s) (u : Upd S w w') (hs : ¬ S P) : PrAt w' P sw s := u.heap h hs
theorem dotK_in {ws s : List Int} (hw : inM 16777216 ws = true) (hs : inM 2097152 s = true) (hl : ws.length ≤ 12) (k : Nat) : -4611686018427387904 ≤ dotK ws s k ∧ dotK ws s k ≤ 4611686018427387904 := by
  have hw' : inM 16777216 (ws.take k) = true := inM_all fun x hx => inM_yes hw x (List.mem_of_mem_take hx)
  have hs' : inM 2097152 (s.take k) = true := inM_all fun x hx => inM_yes hs x (List.mem_of_mem_take hx)
  have := prd_in hw' hs' (by rw [List.length_take]; omega)
  unfold dotK
  omega
theorem mul_in2 {ws s : List Int} (hw : inM 16777216 ws = true) (hs : inM 2097152 s = true) (k : Nat) (x y : Int) (hx : ws[k]? = some x) (hy : s[k]? = some y) : -4611686018427387904 ≤ x * y ∧ x * y ≤ 4611686018427387904 := by
  have h1 := inM_yes hw x (List.mem_of_getElem? hx)
  have h2 := inM_yes hs y (List.mem_of_getElem? hy)
  have := abs_mul_in h1 h2
  omega
theorem rat_ok {a b : Int} (h1 : 1 ≤ b) (h2 : b ≤ 1099511627776) (h3 : -1152921504606846976 ≤ a) (h4 : a ≤ 1152921504606846976) : ratE a b = 0 := by
  unfold ratE
  rw [if_neg (by omega), if_neg (by omega)]
set_option maxRecDepth 100000 in
set_option maxHeartbeats 2000000 in
theorem prediction_any (P : Nat) (sw : Value) (ws s : List Int) (w : World) (hp : PrAt w P sw s) (hi : Ints w sw ws) (hl : ws.length ≤ 12) (hs : s.length = 12) (bw : inM 16777216 ws = true) (bs : inM 2097152 s = true) :
    Calls Try.prog 81 #[.pointer (some ⟨P, 0, none⟩)] w fun e w' => e = .returned (.int .i64 (prd ws s)) ∧ Upd NoB w w' := by
  have hd := prd_in bw bs hl
  have HS := Lib.hid (fun (B : Nat) (V : World) (u : Upd NoB w V) => sum_any B sw (.slice (some ⟨P, 1, none⟩) 12 12) ws s V ⟨by omega, by omega⟩ (mul_in2 bw bs) (dotK_in bw bs hl) (hi.later u) ((hp.upd u (noB _)).seen hs))
  have HR := Lib.hid (fun V => lround_any (-(dotL ws s)) 4096 V (rat_ok (by decide) (by decide) (by omega) (by omega)))
  have HPr := Lib.hid (show rnd (-(dotL ws s)) 4096 = prd ws s from rfl)
  rw [HPr.out] at HR
  obtain ⟨d, hdd⟩ : ∃ d, dotL ws s = d := ⟨_, rfl⟩
  rw [hdd] at hd HS HR
  have z1 : wrap64 (-d) = -d := IntWalk.wrap64_in _ (by omega)
  have z2 : IntKind.i64.wrap (-d) = -d := IntWalk.i64_in _ (by omega)
  have c0 := hp.weights
  obtain ⟨a, cap, rfl⟩ := hi.form
  have HP := Lib.hid hp; have HI := Lib.hid hi
  generalize prd ws s = R at *
  generalize ws.length = L at *
  have d0 : w.drew.cell? ⟨P, 0, none⟩ = some (.slice a L cap) := c0
  clear hdd hd hp hi bw bs HPr
  go_enter Try.func81, Try.ntmps81
  go_wp2
  refine wp_region_still_tail 8 (by kernel_rfl) (by kernel_rfl) ?_
  simp only [List.take_succ_cons, List.take_zero, List.drop_succ_cons, List.drop_zero]
  repeat still_step
  refine wpStill_nil ?_
  change wpList _ _ _ _ _ w.drew
  have u0 : Upd NoB w w.drew := (Upd.refl _ _).drew
  have HU0 := Lib.hid u0
  generalize w.drew = W at *
  clear c0 d0 u0
  go_wp2_with fail
  refine (products_any _ _ W ⟨_, _, _, rfl⟩ ⟨_, _, _, rfl⟩).mono ?_
  rintro e w2 ⟨rfl, hw2⟩
  have u2 : Upd NoB W w2 := by rw [hw2]; exact ((Upd.refl _ _).alloc _).alloc _
  have b1 : w2.heap[W.heap.size]? = some (.cells #[.slice a L cap] 22 (0, 0)) := by rw [hw2]; exact ((Upd.refl NoB _).alloc _).heap (heap_alloc_new W _) (noB _)
  have b2 : w2.heap[W.heap.size + 1]? = some (.cells #[.slice (some ⟨P, 1, none⟩) 12 12] 22 (0, 0)) := by
    have s1 : (W.alloc (.cells #[.slice a L cap] 22)).heap.size = W.heap.size + 1 := by simp
    rw [hw2, ← s1]; exact heap_alloc_new _ _
  have HSm := Lib.hid (HS.out W.heap.size w2 (HU0.out.then u2) (blk_cell b1 0) (blk_cell b2 0))
  have U2 := Lib.hid (HU0.out.then u2)
  clear u2 b1 b2 hw2
  go_wp2_with fail
  refine HSm.out.mono ?_
  rintro e w3 ⟨rfl, u3⟩
  have U3 := Lib.hid (U2.out.then u3)
  clear u3
  go_wp2_with fail
  refine (HR.out _).mono ?_
  rintro e w4 ⟨rfl, rfl⟩
  go_wp2_with fail
  go_ret
  exact ⟨rfl, U3.out⟩
theorem upd_setRow {S : Nat → Prop} {a w : World} (h : Upd S a w) (g : Nat) (cs : Array Value) (hg : g < a.heap.size → S g) : Upd S a (w.setRow g cs) :=
  h.trans (T := fun k => k = g) ⟨rfl, rfl, rfl, by simp [World.setRow], fun k _ hn => setRow_other w g k cs (fun e => hn (by first | exact e | exact e.symm))⟩ (fun i hi e => by have e : i = g := e; subst e; exact hg hi)
set_option maxRecDepth 100000 in
set_option maxHeartbeats 2000000 in
theorem see_any (P : Nat) (sw : Value) (s : List Int) (v : Int) (w : World) (hp : PrAt w P sw s) (hs : s.length = 12) : Calls Try.prog 82 #[.pointer (some ⟨P, 0, none⟩), .int .i64 v] w fun e w' => e = .returned (.tuple #[]) ∧ PrAt w' P sw (seeL s v) ∧ Upd (fun k => k = P) w w' := by
  rcases s with _ | ⟨a0, _ | ⟨a1, _ | ⟨a2, _ | ⟨a3, _ | ⟨a4, _ | ⟨a5, _ | ⟨a6, _ | ⟨a7, _ | ⟨a8, _ | ⟨a9, _ | ⟨a10, _ | ⟨a11, _ | ⟨_, _⟩⟩⟩⟩⟩⟩⟩⟩⟩⟩⟩⟩⟩ <;> simp at hs
  clear hs
  have hq : w.drew.heap[P]? = some (.cells #[sw, .int .i64 a0, .int .i64 a1, .int .i64 a2, .int .i64 a3, .int .i64 a4, .int .i64 a5, .int .i64 a6, .int .i64 a7, .int .i64 a8, .int .i64 a9, .int .i64 a10, .int .i64 a11] 81 (0, 0)) := hp
  have HQ := Lib.hid hq
  have HU0 := Lib.hid (show Upd (fun k => k = P) w w.drew from (Upd.refl _ _).drew)
  clear hp hq
  go_enter Try.func82, Try.ntmps82
  go_wp2
  refine wp_region_still_tail 8 (by kernel_rfl) (by kernel_rfl) ?_
  simp only [List.take_succ_cons, List.take_zero, List.drop_succ_cons, List.drop_zero]
  repeat still_step
  refine wpStill_nil ?_
  change wpList _ _ _ _ _ w.drew
  generalize w.drew = W at *
  refine wpList_copy_own rfl (.tmp 7) (.tmp 11) 22 22 rfl 3 Try.underlying22 int_size P 2 11 11 ⟨P, 1, none⟩ 12 12 rfl rfl #[sw, .int .i64 a0, .int .i64 a1, .int .i64 a2, .int .i64 a3, .int .i64 a4, .int .i64 a5, .int .i64 a6, .int .i64 a7, .int .i64 a8, .int .i64 a9, .int .i64 a10, .int .i64 a11] _ HQ.out [.int .i64 a0, .int .i64 a1, .int .i64 a2, .int .i64 a3, .int .i64 a4, .int .i64 a5, .int .i64 a6, .int .i64 a7, .int .i64 a8, .int .i64 a9, .int .i64 a10] rfl ?src (Nat.le_refl 13) ?one ?_
  case src =>
    intro j u hu
    rw [addr_add, blk_cell HQ.out]
    rcases j with _ | _ | _ | _ | _ | _ | _ | _ | _ | _ | _ | j <;> first | exact hu | (simp at hu)
  case one =>
    intro u hu
    simp only [List.mem_cons, List.not_mem_nil, or_false] at hu
    rcases hu with rfl | rfl | rfl | rfl | rfl | rfl | rfl | rfl | rfl | rfl | rfl <;> rfl
  have hq2 := setRow_heap W P _ #[sw, .int .i64 a0, .int .i64 a0, .int .i64 a1, .int .i64 a2, .int .i64 a3, .int .i64 a4, .int .i64 a5, .int .i64 a6, .int .i64 a7, .int .i64 a8, .int .i64 a9, .int .i64 a10] _ _ HQ.out
  have u2 : Upd (fun k => k = P) w (W.setRow P #[sw, .int .i64 a0, .int .i64 a0, .int .i64 a1, .int .i64 a2, .int .i64 a3, .int .i64 a4, .int .i64 a5, .int .i64 a6, .int .i64 a7, .int .i64 a8, .int .i64 a9, .int .i64 a10]) := upd_setRow HU0.out P _ (fun _ => rfl)
  change wpList _ _ _ _ _ (W.setRow P #[sw, .int .i64 a0, .int .i64 a0, .int .i64 a1, .int .i64 a2, .int .i64 a3, .int .i64 a4, .int .i64 a5, .int .i64 a6, .int .i64 a7, .int .i64 a8, .int .i64 a9, .int .i64 a10])
  have HQ2 := Lib.hid hq2; have U2 := Lib.hid u2
  generalize W.setRow P #[sw, .int .i64 a0, .int .i64 a0, .int .i64 a1, .int .i64 a2, .int .i64 a3, .int .i64 a4, .int .i64 a5, .int .i64 a6, .int .i64 a7, .int .i64 a8, .int .i64 a9, .int .i64 a10] = W2 at *
  have c1 := blk_cell HQ2.out 1
  have f1 := blk_free HQ2.out 1
  clear hq2 u2
  go_wp2_with fail
  go_end0
  exact ⟨rfl, block_set HQ2.out _, U2.out.setCell _ (fun _ => rfl)⟩
end Go.Proofs.Ytopjjdfnnjgnlaa
