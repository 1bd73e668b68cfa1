/- the reader -/
import Derived.Test.YtjnbnhnkjhnbkaaPuts3
import Derived.Deep.QuietTactic
import Derived.BigQuiet
namespace Go.Proofs.Ytjnbnhnkjhnbkaa
open Go.RowKit Go.Shelf
attribute [local go_sem] Oper.semAt_some

/-- A reader at block b: it has the first cnt bits of the bytes zs in the slice sv, and the position at_. -/
def RAt (w : World) (b : Nat) (sv : Value) (zs : List Nat) (cnt at_ : Nat) : Prop :=
  w.heap[b]? = some (.cells #[sv, .int .i64 cnt, .int .i64 at_] 97 (0, 0)) ∧ Bytes w sv zs ∧ cnt ≤ 8 * zs.length ∧ at_ ≤ cnt ∧ cnt ≤ 1048576 ∧ zs.length ≤ 140737488355328
def rfoot (b : Nat) (sv : Value) (zs : List Nat) : Nat → Prop := fun k => k = b ∨ (zs ≠ [] ∧ sv.ownBlock = some k)
theorem RAt.upd {w w' : World} {b : Nat} {sv : Value} {zs : List Nat} {cnt at_ : Nat} (h : RAt w b sv zs cnt at_) {S : Nat → Prop} (u : Upd S w w') (hs : ∀ k, rfoot b sv zs k → ¬ S k) : RAt w' b sv zs cnt at_ :=
  ⟨u.heap h.1 (hs b (.inl rfl)), h.2.1.keep (D := fun k => zs ≠ [] ∧ sv.ownBlock = some k) (u.keepD (fun k hk => ⟨by obtain ⟨c, t, fr, hc⟩ := h.2.1.lt hk.1 k hk.2; exact lt_of_block hc, hs k (.inr hk)⟩)) (fun hz k hk => ⟨hz, hk⟩), h.2.2⟩
theorem RAt.c0 {w : World} {b : Nat} {sv : Value} {zs : List Nat} {cnt at_ : Nat} (h : RAt w b sv zs cnt at_) : w.cell? ⟨b, 0, none⟩ = some sv := blk_cell h.1 0
theorem RAt.c1 {w : World} {b : Nat} {sv : Value} {zs : List Nat} {cnt at_ : Nat} (h : RAt w b sv zs cnt at_) : w.cell? ⟨b, 1, none⟩ = some (.int .i64 cnt) := blk_cell h.1 1
theorem RAt.c2 {w : World} {b : Nat} {sv : Value} {zs : List Nat} {cnt at_ : Nat} (h : RAt w b sv zs cnt at_) : w.cell? ⟨b, 2, none⟩ = some (.int .i64 at_) := blk_cell h.1 2
theorem blk_free {w : World} {b : Nat} {c : Array Value} {t : TypeId} (h : w.heap[b]? = some (.cells c t (0, 0))) (i : Nat) : w.frozen? ⟨b, i, none⟩ = false := by
  unfold World.frozen?
  rw [h]
  simp

theorem left_any (b : Nat) (cnt at_ : Nat) (w : World) (h1 : w.cell? ⟨b, 1, none⟩ = some (.int .i64 cnt)) (h2 : w.cell? ⟨b, 2, none⟩ = some (.int .i64 at_)) (hc : cnt ≤ 1048576) (ha : at_ ≤ cnt) :
    Calls Try.prog 47 #[.pointer (some ⟨b, 0, none⟩)] w fun e w' => e = .returned (.int .i64 ((cnt : Int) - at_)) ∧ w' = w.drew := by
  have k1 : IntKind.i64.wrap ((cnt : Int) - at_) = (cnt : Int) - at_ := IntWalk.i64_in _ (by omega)
  go_enter Try.func47, Try.ntmps47
  go_wp2
  go_region
  all_goals go_wp2
  all_goals go_ret
  all_goals exact ⟨rfl, rfl⟩
theorem left_nil (w : World) : Calls Try.prog 47 #[.pointer none] w fun e w' => e = .returned (.int .i64 0) ∧ w = w' := by
  go_enter Try.func47, Try.ntmps47
  go_wp2
  go_ret
  exact ⟨rfl, rfl⟩
theorem at_any (b : Nat) (at_ : Nat) (w : World) (h2 : w.cell? ⟨b, 2, none⟩ = some (.int .i64 at_)) :
    Calls Try.prog 39 #[.pointer (some ⟨b, 0, none⟩)] w fun e w' => e = .returned (.int .i64 at_) ∧ w = w' := by
  go_enter Try.func39, Try.ntmps39
  go_wp2
  go_ret
  exact ⟨rfl, rfl⟩
theorem at_nil (w : World) : Calls Try.prog 39 #[.pointer none] w fun e w' => e = .returned (.int .i64 0) ∧ w = w' := by
  go_enter Try.func39, Try.ntmps39
  go_wp2
  go_ret
  exact ⟨rfl, rfl⟩

def valBits (l : List Nat) : Nat := l.foldl (fun v x => 2 * v + x) 0
theorem valBits_snoc (l : List Nat) (x : Nat) : valBits (l ++ [x]) = 2 * valBits l + x := by simp [valBits]
theorem foldBits_lt : ∀ (l : List Nat) (v : Nat), (∀ x ∈ l, x ≤ 1) → l.foldl (fun v x => 2 * v + x) v < (v + 1) * 2 ^ l.length
  | [], v, _ => by simp
  | x :: l, v, h => by
    have h1 := foldBits_lt l (2 * v + x) (fun y hy => h y (List.mem_cons_of_mem _ hy))
    have hx := h x List.mem_cons_self
    have h2 : (2 * v + x + 1) * 2 ^ l.length ≤ (2 * v + 2) * 2 ^ l.length := Nat.mul_le_mul_right _ (by omega)
    rw [List.foldl_cons, List.length_cons, Nat.pow_succ]
    have h3 : (v + 1) * (2 ^ l.length * 2) = (2 * v + 2) * 2 ^ l.length := by
      rw [Nat.mul_comm (2 ^ l.length) 2, ← Nat.mul_assoc]; congr 1; omega
    omega
theorem valBits_lt {l : List Nat} (h : ∀ x ∈ l, x ≤ 1) : valBits l < 2 ^ l.length := by
  have := foldBits_lt l 0 h
  simpa [valBits] using this
theorem bits_map (ys : List Bit) : ∀ x ∈ ys.map Subtype.val, x ≤ 1 := fun x hx => by
  simp only [List.mem_map] at hx
  obtain ⟨y, _, rfl⟩ := hx
  exact y.2
theorem bit01_map (ys : List Bit) : bit01 (ys.map Subtype.val) := fun k => by
  simp only [List.getD_eq_getElem?_getD, List.getElem?_map]
  cases h : ys[k]? with
  | none => simp
  | some y => exact y.2

theorem heap_later {W : World} {D : Nat} {o : Obj} (h : W.heap[D]? = some o) {b i : Nat} {u : Value} (hb : b ≠ D) : (W.setCell ⟨b, i, none⟩ u).heap[D]? = some o :=
  (Below.heap_setCell _ _ _ _ (fun e => hb e.symm)).trans h
theorem boxes3 (W : World) (o0 o1 o2 : Obj) : (((W.alloc o0).alloc o1).alloc o2).heap[W.heap.size]? = some o0 ∧ (((W.alloc o0).alloc o1).alloc o2).heap[W.heap.size + 1]? = some o1 ∧
    (((W.alloc o0).alloc o1).alloc o2).heap[W.heap.size + 2]? = some o2 ∧ Upd NoB W (((W.alloc o0).alloc o1).alloc o2) := by
  have h1 := heap_alloc_new (W.alloc o0) o1
  rw [World.size_alloc] at h1
  have h2 := heap_alloc_new ((W.alloc o0).alloc o1) o2
  rw [World.size_alloc, World.size_alloc] at h2
  exact ⟨(Below.heap_alloc _ _ _ (by simp; omega)).trans ((Below.heap_alloc _ _ _ (by simp)).trans (heap_alloc_new W _)), (Below.heap_alloc _ _ _ (by simp)).trans h1, h2, (((Upd.refl _ _).alloc _).alloc _).alloc _⟩

set_option maxRecDepth 100000 in
set_option maxHeartbeats 1000000 in
theorem rnumber_any (b : Nat) (sv : Value) (zs : List Nat) (cnt at_ n : Nat) (w : World) (h : RAt w b sv zs cnt at_) (hn : at_ + n ≤ cnt) (hn33 : n ≤ 40) (hsep : zs ≠ [] → sv.ownBlock ≠ some b) :
    Calls Try.prog 112 #[.pointer (some ⟨b, 0, none⟩), .int .i64 n] w fun e w' => e = .returned (.int .i64 (valBits (bitsOf zs at_ n))) ∧ RAt w' b sv zs cnt (at_ + n) ∧ Upd (fun k => k = b) w w' := by
  have hbs := lt_of_block h.1
  have hcnt := h.2.2.2.2.1
  have hsv : ∃ a cap, sv = .slice a zs.length cap := by obtain ⟨_, ⟨_, a, cap, rfl, _⟩, _⟩ := h; exact ⟨a, cap, rfl⟩
  obtain ⟨a, cap, rfl⟩ := hsv
  have k1 : IntKind.i64.wrap ((at_ : Int) + n) = (at_ : Int) + n := IntWalk.i64_in _ (by omega)
  have H := Lib.hid h; clear h
  refine (callsIn_wide (n := 2)).1 (callsIn_of_wp_marks Try.func112 rfl trivial (wpIn_wide.2 ?_) rfl)
  simp only [Try.ntmps112, List.size_toArray, List.length_cons, List.length_nil, Nat.reduceAdd, Nat.reduceSub, Array.replicate_succ, Array.replicate_zero, List.push_toArray, List.append_toArray, List.nil_append, List.cons_append]
  go_wp2
  obtain ⟨W, hW⟩ : ∃ W, W = w.alloc (.cells #[.int .i64 0] 3) := ⟨_, rfl⟩
  rw [← hW]
  have hu : Upd NoB w W := by rw [hW]; exact (Upd.refl _ _).alloc _
  have hR := H.out.upd hu (fun k _ => noB k)
  have c0 := hR.c0
  have c1 := hR.c1
  have c2 := hR.c2
  have hB : W.heap[w.heap.size]? = some (.cells #[.int .i64 0] 3 (0, 0)) := by rw [hW]; exact heap_alloc_new w _
  have HB := Lib.hid hB; clear hB
  have HR := Lib.hid hR; clear hR
  have HW := Lib.hid hW; clear hW
  refine wp_region_still_tail 14 (by kernel_rfl) (by kernel_rfl) ?_
  simp only [List.take_succ_cons, List.take_zero, List.drop_succ_cons, List.drop_zero]
  repeat still_step
  refine wpStill_nil ?_
  change wpList _ _ _ _ _ (World.drew W)
  go_wp2_with (go_at_call 64; refine (between_in _ _ _ _ _ _).mono ?_; rintro e w2 ⟨rfl, rfl⟩)
  obtain ⟨W2, hW2⟩ : ∃ W2, W2 = (((W.alloc (.cells #[.slice a zs.length cap] 32)).alloc (.cells #[.int .i64 at_] 3)).alloc (.cells #[.int .i64 ((at_ : Int) + n)] 3)).drew := ⟨_, rfl⟩
  rw [← hW2]
  obtain ⟨b0, b1, b2, hu2⟩ := boxes3 W (.cells #[.slice a zs.length cap] 32) (.cells #[.int .i64 at_] 3) (.cells #[.int .i64 ((at_ : Int) + n)] 3)
  have hu2 : Upd NoB W W2 := by rw [hW2]; exact hu2.drew
  have b0 : W2.heap[W.heap.size]? = some (.cells #[.slice a zs.length cap] 32 (0, 0)) := by rw [hW2]; exact b0
  have b1 : W2.heap[W.heap.size + 1]? = some (.cells #[.int .i64 at_] 3 (0, 0)) := by rw [hW2]; exact b1
  have b2 : W2.heap[W.heap.size + 2]? = some (.cells #[.int .i64 ((at_ : Int) + n)] 3 (0, 0)) := by rw [hW2]; exact b2
  have hR2 := HR.out.upd hu2 (fun k _ => noB k)
  have hB2 := hu2.heap HB.out (noB _)
  have hBW := lt_of_block HB.out
  have hD : ∀ k, betweenD W.heap.size (.slice a zs.length cap) zs k → k < W2.heap.size := by
    rintro k (rfl | rfl | rfl | ⟨hz, hk⟩)
    · exact lt_of_block b0
    · exact lt_of_block b1
    · exact lt_of_block b2
    · obtain ⟨c, t, fr, hc⟩ := hR2.2.1.lt hz k hk
      exact lt_of_block hc
  have hDv : ∀ k, betweenD W.heap.size (.slice a zs.length cap) zs k → k ≠ w.heap.size := by
    rintro k (rfl | rfl | rfl | ⟨hz, hk⟩) e
    · omega
    · omega
    · omega
    · obtain ⟨c, t, fr, hc⟩ := H.out.2.1.lt hz k hk
      have := lt_of_block hc; omega
  refine (wpIn_wide (n := 2)).1 (wpIn_rangeFunc_ownG rfl (by omega) (gf := 94) (lb := betweenLb W.heap.size) rfl trivial (enters_of Try.func94 (by kernel_rfl) rfl)
    (between_seq W.heap.size _ zs at_ n W2 (by have := hR2.2.2.1; omega) hR2.2.2.2.2.2 (cell_of_one b1) (by have := cell_of_one b2; rw [this]; simp) (cell_of_one b0) hR2.2.1 hD) (fun h k => h.trans k)
    (fun W' l o o' hl _ _ _ => keepD_putObj (fun hd => by have := hD _ hd; omega)) (Below.refl _ _) (fun _ => rfl)
    (fun pre W' => W'.heap[w.heap.size]? = some (.cells #[.int .i64 (valBits (pre.map Subtype.val))] 3 (0, 0)) ∧ Upd (fun k => k = w.heap.size) W2 W' ∧ pre.length ≤ n)
    (fun _ _ _ => False) ?hI (fun _ _ _ _ _ hs _ _ => hs) ⟨hB2, Upd.refl _ _, by simp⟩
    (fun x => { tmps := #[.pointer (some ⟨b, 0, none⟩), .int .i64 n, undef, undef, .int .i64 0, .pointer (some ⟨w.heap.size, 0, none⟩), .int .i64 (x.1 : Nat), .pointer (some ⟨b, 0, none⟩), .pointer (some ⟨b, 0, none⟩), .pointer (some ⟨b, 0, none⟩), .slice a zs.length cap,
      .pointer (some ⟨b, 0, none⟩), .pointer (some ⟨b, 0, none⟩), .pointer (some ⟨b, 2, none⟩), .int .i64 at_, .pointer (some ⟨b, 0, none⟩), .pointer (some ⟨b, 0, none⟩), .pointer (some ⟨b, 2, none⟩), .int .i64 at_, .int .i64 n, .int .i64 ((at_ : Int) + n),
      .func (.func 94) #[] #[.pointer (some ⟨W.heap.size + 1, 0, none⟩), .pointer (some ⟨W.heap.size + 2, 0, none⟩), .pointer (some ⟨W.heap.size, 0, none⟩)], .int .i64 (x.1 : Nat), undef, undef, undef, undef, undef, undef, undef, undef, undef, undef, undef, undef, undef], defers := [] }) ?assign ?body ?done ?stop)
  case hI =>
    rintro s A B row ⟨h1, h2, h3⟩ hg hr
    refine ⟨(hg.block _ (lt_of_block h1) (fun e => ?_)).trans h1, h2.grown hg (fun k e hk => ?_), h3⟩
    · obtain ⟨_, o, ho, hc⟩ := hr _ e.symm
      rw [h1] at ho; cases ho; cases hc
    · have := (hr k e).1; omega
  case assign =>
    intro l x W' K hK
    gi_wp2
    exact hK
  case body =>
    rintro l pre x W' ⟨hb, hu', hl⟩ hN
    have hv := valBits_lt (bits_map pre)
    have hp := Nat.pow_le_pow_right (n := 2) (by decide) (show (pre.map Subtype.val).length ≤ 40 by simp; omega)
    have hx := x.2
    have hval : valBits ((pre ++ [x]).map Subtype.val) = 2 * valBits (pre.map Subtype.val) + x.1 := by rw [List.map_append]; exact valBits_snoc _ _
    have hv2 : valBits (pre.map Subtype.val) < 1099511627776 := Nat.lt_of_lt_of_le hv (by simpa using hp)
    clear hv hp
    generalize valBits (pre.map Subtype.val) = y at *
    have hc : W'.cell? ⟨w.heap.size, 0, none⟩ = some (.int .i64 y) := cell_of_one hb
    have hf := free_of_one hb
    have Hval := Lib.hid hval; clear hval
    have Hb := Lib.hid hb; clear hb
    gi_wp2
    refine ⟨(KeepsOthers.setCell _ _ _).from _, ?_, ?_, ?_, by simp; omega⟩
    · intro k hk
      exact Below.heap_setCell _ _ _ _ (hDv k hk)
    · rw [Hval.out]
      have := one_setCell Hb.out (u := .int .i64 (2 * (y : Int) + x.1))
      simpa using this
    · exact hu'.setCell _ (fun _ => rfl)
  case done =>
    rintro D ys W' hD' hS ⟨hb, hu', hl⟩ hK
    have hR3 := hR2.upd hu' (fun k hk e => by
      subst e
      rcases hk with rfl | ⟨hz, hk⟩
      · omega
      · exact hDv _ (.inr (.inr (.inr ⟨hz, hk⟩))) rfl)
    rw [hS] at hb
    have d1 := cell_of_one hb
    have d2 := hR3.c2
    have d3 := blk_free hR3.1 2
    have hbW : b < W2.heap.size := Nat.lt_of_lt_of_le (Nat.lt_of_lt_of_le hbs hu.size) hu2.size
    have hbD : b ≠ D := by omega
    have hbv : b ≠ w.heap.size := by omega
    have hR3' := hR3
    have hu5 : Upd (fun k => k = b ∨ k = w.heap.size) w W' := ((hu.then hu2).mono (fun k _ hk => (noB k hk).elim)).trans hu' (fun k _ hk => .inr hk)
    obtain ⟨y, hy⟩ : ∃ y, y = valBits (bitsOf zs at_ n) := ⟨_, rfl⟩
    rw [← hy] at d1 hb
    have Hy := Lib.hid hy; clear hy
    clear hR3
    have HR3 := Lib.hid hR3'; clear hR3'
    have HR2 := Lib.hid hR2; clear hR2
    have Hb := Lib.hid hb; clear hb
    have HS := Lib.hid hS; clear hS
    have HK := Lib.hid hK; clear hK
    have HW2 := Lib.hid hW2; clear hW2
    clear b0 b1 b2 hB2 c0 c1 c2
    go_wp2
    refine ⟨by simp, .inl ⟨_, _, rfl, run_takeDeferred (heap_later HK.out hbD), ?_⟩⟩
    have u1 : Upd (fun k => k = b) W' (W'.setCell ⟨b, 2, none⟩ (.int .i64 ((at_ : Int) + n))) := (Upd.refl _ _).setCell _ (fun _ => rfl)
    have u2 : Upd (fun k => k = b ∨ k = D) W' ((W'.setCell ⟨b, 2, none⟩ (.int .i64 ((at_ : Int) + n))).putObj D (.deferred none)) :=
      (u1.mono (fun k _ hk => .inl hk)).grown (grownBy_putObj' _ _ _) (fun k e _ => .inr (by cases e; rfl))
    refine ⟨_, results_tmp rfl _ _ _, by rw [← Hy.out]; rfl, ⟨?_, ?_, HR3.out.2.2.1, hn, HR3.out.2.2.2.2⟩, ?_⟩
    · have hk1 : (W'.setCell ⟨b, 2, none⟩ (.int .i64 ((at_ : Int) + n))).heap[b]? = some (.cells #[.slice a zs.length cap, .int .i64 cnt, .int .i64 ((at_ : Int) + n)] 97 (0, 0)) := block_set HR3.out.1 _
      rw [Int.natCast_add]
      exact (World.putObj_heap_other hbD).trans hk1
    · refine HR3.out.2.1.keep (D := fun k => zs ≠ [] ∧ (Value.slice a zs.length cap).ownBlock = some k) (u2.keepD (fun k hk => ?_)) (fun hz k hk => ⟨hz, hk⟩)
      obtain ⟨c, t, fr, hc⟩ := HR3.out.2.1.lt hk.1 k hk.2
      refine ⟨lt_of_block hc, ?_⟩
      rintro (rfl | rfl)
      · exact hsep hk.1 hk.2
      · rw [HK.out] at hc; cases hc
    · refine (hu5.trans u2 (fun k hk h => ?_)).mono (fun k hk h => ?_)
      · rcases h with h | h
        · exact .inl h
        · have h : k = D := h
          have hwW2 := Nat.le_trans hu.size hu2.size
          omega
      · rcases h with h | h
        · exact h
        · omega
  case stop =>
    rintro D c pre W _ _ h _
    exact h.elim
end Go.Proofs.Ytjnbnhnkjhnbkaa
