/- the reader | the reader: zeros | the reader's calls | the reader's calls, more | the reader's calls: Gamma, Take, Align, Seek, Open | the reader's calls: Take, Open | Take and Open, whole -/
import Derived.Test.YtmdladcfckoglaaMB
import Derived.Deep.QuietTactic
import Derived.BigQuiet
import Derived.Deep.RegionHeld3
namespace Go.Proofs.Ytmdladcfckoglaa
open Go.RowKit Go.Shelf
attribute [local go_sem] Oper.semAt_some

/-- A reader at block b: it has the first cnt bits of the bytes zs in the slice sv, and the position at_. -/
def RAt (w : World) (b : Nat) (sv : Value) (zs : List Nat) (cnt at_ : Nat) : Prop :=
  w.heap[b]? = some (.cells #[sv, .int .i64 cnt, .int .i64 at_] 97 (0, 0)) ∧ Bytes w sv zs ∧ cnt ≤ 8 * zs.length ∧ at_ ≤ cnt ∧ cnt ≤ 1048576 ∧ zs.length ≤ 140737488355328
def rfoot (b : Nat) (sv : Value) (zs : List Nat) : Nat → Prop := fun k => k = b ∨ (zs ≠ [] ∧ sv.ownBlock = some k)
theorem RAt.upd {w w' : World} {b : Nat} {sv : Value} {zs : List Nat} {cnt at_ : Nat} (h : RAt w b sv zs cnt at_) {S : Nat → Prop} (u : Upd S w w') (hs : ∀ k, rfoot b sv zs k → ¬ S k) : RAt w' b sv zs cnt at_ :=
  ⟨u.heap h.1 (hs b (.inl rfl)), h.2.1.keep (D := fun k => zs ≠ [] ∧ sv.ownBlock = some k) (u.keepD (fun k hk => ⟨by obtain ⟨c, t, fr, hc⟩ := h.2.1.lt hk.1 k hk.2; exact lt_of_block hc, hs k (.inr hk)⟩)) (fun hz k hk => ⟨hz, hk⟩), h.2.2⟩
theorem RAt.c0 {w : World} {b : Nat} {sv : Value} {zs : List Nat} {cnt at_ : Nat} (h : RAt w b sv zs cnt at_) : w.cell? ⟨b, 0, none⟩ = some sv := blk_cell h.1 0
theorem RAt.c1 {w : World} {b : Nat} {sv : Value} {zs : List Nat} {cnt at_ : Nat} (h : RAt w b sv zs cnt at_) : w.cell? ⟨b, 1, none⟩ = some (.int .i64 cnt) := blk_cell h.1 1
theorem RAt.c2 {w : World} {b : Nat} {sv : Value} {zs : List Nat} {cnt at_ : Nat} (h : RAt w b sv zs cnt at_) : w.cell? ⟨b, 2, none⟩ = some (.int .i64 at_) := blk_cell h.1 2
theorem blk_free {w : World} {b : Nat} {c : Array Value} {t : TypeId} (h : w.heap[b]? = some (.cells c t (0, 0))) (i : Nat) : w.frozen? ⟨b, i, none⟩ = false := by
  unfold World.frozen?
  rw [h]
  simp

theorem left_any (b : Nat) (cnt at_ : Nat) (w : World) (h1 : w.cell? ⟨b, 1, none⟩ = some (.int .i64 cnt)) (h2 : w.cell? ⟨b, 2, none⟩ = some (.int .i64 at_)) (hc : cnt ≤ 1048576) (ha : at_ ≤ cnt) :
    Calls Try.prog 47 #[.pointer (some ⟨b, 0, none⟩)] w fun e w' => e = .returned (.int .i64 ((cnt : Int) - at_)) ∧ w' = w.drew := by
  have k1 : IntKind.i64.wrap ((cnt : Int) - at_) = (cnt : Int) - at_ := IntWalk.i64_in _ (by omega)
  go_enter Try.func47, Try.ntmps47
  go_wp2
  go_region
  all_goals go_wp2
  all_goals go_ret
  all_goals exact ⟨rfl, rfl⟩
theorem left_nil (w : World) : Calls Try.prog 47 #[.pointer none] w fun e w' => e = .returned (.int .i64 0) ∧ w = w' := by
  go_enter Try.func47, Try.ntmps47
  go_wp2
  go_ret
  exact ⟨rfl, rfl⟩
theorem at_any (b : Nat) (at_ : Nat) (w : World) (h2 : w.cell? ⟨b, 2, none⟩ = some (.int .i64 at_)) :
    Calls Try.prog 39 #[.pointer (some ⟨b, 0, none⟩)] w fun e w' => e = .returned (.int .i64 at_) ∧ w = w' := by
  go_enter Try.func39, Try.ntmps39
  go_wp2
  go_ret
  exact ⟨rfl, rfl⟩
theorem at_nil (w : World) : Calls Try.prog 39 #[.pointer none] w fun e w' => e = .returned (.int .i64 0) ∧ w = w' := by
  go_enter Try.func39, Try.ntmps39
  go_wp2
  go_ret
  exact ⟨rfl, rfl⟩

def valBits (l : List Nat) : Nat := l.foldl (fun v x => 2 * v + x) 0
theorem valBits_snoc (l : List Nat) (x : Nat) : valBits (l ++ [x]) = 2 * valBits l + x := by simp [valBits]
theorem foldBits_lt : ∀ (l : List Nat) (v : Nat), (∀ x ∈ l, x ≤ 1) → l.foldl (fun v x => 2 * v + x) v < (v + 1) * 2 ^ l.length
  | [], v, _ => by simp
  | x :: l, v, h => by
    have h1 := foldBits_lt l (2 * v + x) (fun y hy => h y (List.mem_cons_of_mem _ hy))
    have hx := h x List.mem_cons_self
    have h2 : (2 * v + x + 1) * 2 ^ l.length ≤ (2 * v + 2) * 2 ^ l.length := Nat.mul_le_mul_right _ (by omega)
    rw [List.foldl_cons, List.length_cons, Nat.pow_succ]
    have h3 : (v + 1) * (2 ^ l.length * 2) = (2 * v + 2) * 2 ^ l.length := by
      rw [Nat.mul_comm (2 ^ l.length) 2, ← Nat.mul_assoc]; congr 1; omega
    omega
theorem valBits_lt {l : List Nat} (h : ∀ x ∈ l, x ≤ 1) : valBits l < 2 ^ l.length := by
  have := foldBits_lt l 0 h
  simpa [valBits] using this
theorem bits_map (ys : List Bit) : ∀ x ∈ ys.map Subtype.val, x ≤ 1 := fun x hx => by
  simp only [List.mem_map] at hx
  obtain ⟨y, _, rfl⟩ := hx
  exact y.2
theorem bit01_map (ys : List Bit) : bit01 (ys.map Subtype.val) := fun k => by
  simp only [List.getD_eq_getElem?_getD, List.getElem?_map]
  cases h : ys[k]? with
  | none => simp
  | some y => exact y.2

theorem heap_later {W : World} {D : Nat} {o : Obj} (h : W.heap[D]? = some o) {b i : Nat} {u : Value} (hb : b ≠ D) : (W.setCell ⟨b, i, none⟩ u).heap[D]? = some o :=
  (Below.heap_setCell _ _ _ _ (fun e => hb e.symm)).trans h
theorem boxes3 (W : World) (o0 o1 o2 : Obj) : (((W.alloc o0).alloc o1).alloc o2).heap[W.heap.size]? = some o0 ∧ (((W.alloc o0).alloc o1).alloc o2).heap[W.heap.size + 1]? = some o1 ∧
    (((W.alloc o0).alloc o1).alloc o2).heap[W.heap.size + 2]? = some o2 ∧ Upd NoB W (((W.alloc o0).alloc o1).alloc o2) := by
  have h1 := heap_alloc_new (W.alloc o0) o1
  rw [World.size_alloc] at h1
  have h2 := heap_alloc_new ((W.alloc o0).alloc o1) o2
  rw [World.size_alloc, World.size_alloc] at h2
  exact ⟨(Below.heap_alloc _ _ _ (by simp; omega)).trans ((Below.heap_alloc _ _ _ (by simp)).trans (heap_alloc_new W _)), (Below.heap_alloc _ _ _ (by simp)).trans h1, h2, (((Upd.refl _ _).alloc _).alloc _).alloc _⟩

set_option maxRecDepth 100000 in
set_option maxHeartbeats 1000000 in
theorem rnumber_any (b : Nat) (sv : Value) (zs : List Nat) (cnt at_ n : Nat) (w : World) (h : RAt w b sv zs cnt at_) (hn : at_ + n ≤ cnt) (hn33 : n ≤ 40) (hsep : zs ≠ [] → sv.ownBlock ≠ some b) :
    Calls Try.prog 112 #[.pointer (some ⟨b, 0, none⟩), .int .i64 n] w fun e w' => e = .returned (.int .i64 (valBits (bitsOf zs at_ n))) ∧ RAt w' b sv zs cnt (at_ + n) ∧ Upd (fun k => k = b) w w' := by
  have hbs := lt_of_block h.1
  have hcnt := h.2.2.2.2.1
  have hsv : ∃ a cap, sv = .slice a zs.length cap := by obtain ⟨_, ⟨_, a, cap, rfl, _⟩, _⟩ := h; exact ⟨a, cap, rfl⟩
  obtain ⟨a, cap, rfl⟩ := hsv
  have k1 : IntKind.i64.wrap ((at_ : Int) + n) = (at_ : Int) + n := IntWalk.i64_in _ (by omega)
  have H := Lib.hid h; clear h
  refine (callsIn_wide (n := 2)).1 (callsIn_of_wp_marks Try.func112 rfl trivial (wpIn_wide.2 ?_) rfl)
  simp only [Try.ntmps112, List.size_toArray, List.length_cons, List.length_nil, Nat.reduceAdd, Nat.reduceSub, Array.replicate_succ, Array.replicate_zero, List.push_toArray, List.append_toArray, List.nil_append, List.cons_append]
  go_wp2
  obtain ⟨W, hW⟩ : ∃ W, W = w.alloc (.cells #[.int .i64 0] 3) := ⟨_, rfl⟩
  rw [← hW]
  have hu : Upd NoB w W := by rw [hW]; exact (Upd.refl _ _).alloc _
  have hR := H.out.upd hu (fun k _ => noB k)
  have c0 := hR.c0
  have c1 := hR.c1
  have c2 := hR.c2
  have hB : W.heap[w.heap.size]? = some (.cells #[.int .i64 0] 3 (0, 0)) := by rw [hW]; exact heap_alloc_new w _
  have HB := Lib.hid hB; clear hB
  have HR := Lib.hid hR; clear hR
  have HW := Lib.hid hW; clear hW
  refine wp_region_still_tail 14 (by kernel_rfl) (by kernel_rfl) ?_
  simp only [List.take_succ_cons, List.take_zero, List.drop_succ_cons, List.drop_zero]
  repeat still_step
  refine wpStill_nil ?_
  change wpList _ _ _ _ _ (World.drew W)
  go_wp2_with (go_at_call 64; refine (between_in _ _ _ _ _ _).mono ?_; rintro e w2 ⟨rfl, rfl⟩)
  obtain ⟨W2, hW2⟩ : ∃ W2, W2 = (((W.alloc (.cells #[.slice a zs.length cap] 32)).alloc (.cells #[.int .i64 at_] 3)).alloc (.cells #[.int .i64 ((at_ : Int) + n)] 3)).drew := ⟨_, rfl⟩
  rw [← hW2]
  obtain ⟨b0, b1, b2, hu2⟩ := boxes3 W (.cells #[.slice a zs.length cap] 32) (.cells #[.int .i64 at_] 3) (.cells #[.int .i64 ((at_ : Int) + n)] 3)
  have hu2 : Upd NoB W W2 := by rw [hW2]; exact hu2.drew
  have b0 : W2.heap[W.heap.size]? = some (.cells #[.slice a zs.length cap] 32 (0, 0)) := by rw [hW2]; exact b0
  have b1 : W2.heap[W.heap.size + 1]? = some (.cells #[.int .i64 at_] 3 (0, 0)) := by rw [hW2]; exact b1
  have b2 : W2.heap[W.heap.size + 2]? = some (.cells #[.int .i64 ((at_ : Int) + n)] 3 (0, 0)) := by rw [hW2]; exact b2
  have hR2 := HR.out.upd hu2 (fun k _ => noB k)
  have hB2 := hu2.heap HB.out (noB _)
  have hBW := lt_of_block HB.out
  have hD : ∀ k, betweenD W.heap.size (.slice a zs.length cap) zs k → k < W2.heap.size := by
    rintro k (rfl | rfl | rfl | ⟨hz, hk⟩)
    · exact lt_of_block b0
    · exact lt_of_block b1
    · exact lt_of_block b2
    · obtain ⟨c, t, fr, hc⟩ := hR2.2.1.lt hz k hk
      exact lt_of_block hc
  have hDv : ∀ k, betweenD W.heap.size (.slice a zs.length cap) zs k → k ≠ w.heap.size := by
    rintro k (rfl | rfl | rfl | ⟨hz, hk⟩) e
    · omega
    · omega
    · omega
    · obtain ⟨c, t, fr, hc⟩ := H.out.2.1.lt hz k hk
      have := lt_of_block hc; omega
  refine (wpIn_wide (n := 2)).1 (wpIn_rangeFunc_ownG rfl (by omega) (gf := 94) (lb := betweenLb W.heap.size) rfl trivial (enters_of Try.func94 (by kernel_rfl) rfl)
    (between_seq W.heap.size _ zs at_ n W2 (by have := hR2.2.2.1; omega) hR2.2.2.2.2.2 (cell_of_one b1) (by have := cell_of_one b2; rw [this]; simp) (cell_of_one b0) hR2.2.1 hD) (fun h k => h.trans k)
    (fun W' l o o' hl _ _ _ => keepD_putObj (fun hd => by have := hD _ hd; omega)) (Below.refl _ _) (fun _ => rfl)
    (fun pre W' => W'.heap[w.heap.size]? = some (.cells #[.int .i64 (valBits (pre.map Subtype.val))] 3 (0, 0)) ∧ Upd (fun k => k = w.heap.size) W2 W' ∧ pre.length ≤ n)
    (fun _ _ _ => False) ?hI (fun _ _ _ _ _ hs _ _ => hs) ⟨hB2, Upd.refl _ _, by simp⟩
    (fun x => { tmps := #[.pointer (some ⟨b, 0, none⟩), .int .i64 n, undef, undef, .int .i64 0, .pointer (some ⟨w.heap.size, 0, none⟩), .int .i64 (x.1 : Nat), .pointer (some ⟨b, 0, none⟩), .pointer (some ⟨b, 0, none⟩), .pointer (some ⟨b, 0, none⟩), .slice a zs.length cap,
      .pointer (some ⟨b, 0, none⟩), .pointer (some ⟨b, 0, none⟩), .pointer (some ⟨b, 2, none⟩), .int .i64 at_, .pointer (some ⟨b, 0, none⟩), .pointer (some ⟨b, 0, none⟩), .pointer (some ⟨b, 2, none⟩), .int .i64 at_, .int .i64 n, .int .i64 ((at_ : Int) + n),
      .func (.func 94) #[] #[.pointer (some ⟨W.heap.size + 1, 0, none⟩), .pointer (some ⟨W.heap.size + 2, 0, none⟩), .pointer (some ⟨W.heap.size, 0, none⟩)], .int .i64 (x.1 : Nat), undef, undef, undef, undef, undef, undef, undef, undef, undef, undef, undef, undef, undef], defers := [] }) ?assign ?body ?done ?stop)
  case hI =>
    rintro s A B row ⟨h1, h2, h3⟩ hg hr
    refine ⟨(hg.block _ (lt_of_block h1) (fun e => ?_)).trans h1, h2.grown hg (fun k e hk => ?_), h3⟩
    · obtain ⟨_, o, ho, hc⟩ := hr _ e.symm
      rw [h1] at ho; cases ho; cases hc
    · have := (hr k e).1; omega
  case assign =>
    intro l x W' K hK
    gi_wp2
    exact hK
  case body =>
    rintro l pre x W' ⟨hb, hu', hl⟩ hN
    have hv := valBits_lt (bits_map pre)
    have hp := Nat.pow_le_pow_right (n := 2) (by decide) (show (pre.map Subtype.val).length ≤ 40 by simp; omega)
    have hx := x.2
    have hval : valBits ((pre ++ [x]).map Subtype.val) = 2 * valBits (pre.map Subtype.val) + x.1 := by rw [List.map_append]; exact valBits_snoc _ _
    have hv2 : valBits (pre.map Subtype.val) < 1099511627776 := Nat.lt_of_lt_of_le hv (by simpa using hp)
    clear hv hp
    generalize valBits (pre.map Subtype.val) = y at *
    have hc : W'.cell? ⟨w.heap.size, 0, none⟩ = some (.int .i64 y) := cell_of_one hb
    have hf := free_of_one hb
    have Hval := Lib.hid hval; clear hval
    have Hb := Lib.hid hb; clear hb
    gi_wp2
    refine ⟨(KeepsOthers.setCell _ _ _).from _, ?_, ?_, ?_, by simp; omega⟩
    · intro k hk
      exact Below.heap_setCell _ _ _ _ (hDv k hk)
    · rw [Hval.out]
      have := one_setCell Hb.out (u := .int .i64 (2 * (y : Int) + x.1))
      simpa using this
    · exact hu'.setCell _ (fun _ => rfl)
  case done =>
    rintro D ys W' hD' hS ⟨hb, hu', hl⟩ hK
    have hR3 := hR2.upd hu' (fun k hk e => by
      subst e
      rcases hk with rfl | ⟨hz, hk⟩
      · omega
      · exact hDv _ (.inr (.inr (.inr ⟨hz, hk⟩))) rfl)
    rw [hS] at hb
    have d1 := cell_of_one hb
    have d2 := hR3.c2
    have d3 := blk_free hR3.1 2
    have hbW : b < W2.heap.size := Nat.lt_of_lt_of_le (Nat.lt_of_lt_of_le hbs hu.size) hu2.size
    have hbD : b ≠ D := by omega
    have hbv : b ≠ w.heap.size := by omega
    have hR3' := hR3
    have hu5 : Upd (fun k => k = b ∨ k = w.heap.size) w W' := ((hu.then hu2).mono (fun k _ hk => (noB k hk).elim)).trans hu' (fun k _ hk => .inr hk)
    obtain ⟨y, hy⟩ : ∃ y, y = valBits (bitsOf zs at_ n) := ⟨_, rfl⟩
    rw [← hy] at d1 hb
    have Hy := Lib.hid hy; clear hy
    clear hR3
    have HR3 := Lib.hid hR3'; clear hR3'
    have HR2 := Lib.hid hR2; clear hR2
    have Hb := Lib.hid hb; clear hb
    have HS := Lib.hid hS; clear hS
    have HK := Lib.hid hK; clear hK
    have HW2 := Lib.hid hW2; clear hW2
    clear b0 b1 b2 hB2 c0 c1 c2
    go_wp2
    refine ⟨by simp, .inl ⟨_, _, rfl, run_takeDeferred (heap_later HK.out hbD), ?_⟩⟩
    have u1 : Upd (fun k => k = b) W' (W'.setCell ⟨b, 2, none⟩ (.int .i64 ((at_ : Int) + n))) := (Upd.refl _ _).setCell _ (fun _ => rfl)
    have u2 : Upd (fun k => k = b ∨ k = D) W' ((W'.setCell ⟨b, 2, none⟩ (.int .i64 ((at_ : Int) + n))).putObj D (.deferred none)) :=
      (u1.mono (fun k _ hk => .inl hk)).grown (grownBy_putObj' _ _ _) (fun k e _ => .inr (by cases e; rfl))
    refine ⟨_, results_tmp rfl _ _ _, by rw [← Hy.out]; rfl, ⟨?_, ?_, HR3.out.2.2.1, hn, HR3.out.2.2.2.2⟩, ?_⟩
    · have hk1 : (W'.setCell ⟨b, 2, none⟩ (.int .i64 ((at_ : Int) + n))).heap[b]? = some (.cells #[.slice a zs.length cap, .int .i64 cnt, .int .i64 ((at_ : Int) + n)] 97 (0, 0)) := block_set HR3.out.1 _
      rw [Int.natCast_add]
      exact (World.putObj_heap_other hbD).trans hk1
    · refine HR3.out.2.1.keep (D := fun k => zs ≠ [] ∧ (Value.slice a zs.length cap).ownBlock = some k) (u2.keepD (fun k hk => ?_)) (fun hz k hk => ⟨hz, hk⟩)
      obtain ⟨c, t, fr, hc⟩ := HR3.out.2.1.lt hk.1 k hk.2
      refine ⟨lt_of_block hc, ?_⟩
      rintro (rfl | rfl)
      · exact hsep hk.1 hk.2
      · rw [HK.out] at hc; cases hc
    · refine (hu5.trans u2 (fun k hk h => ?_)).mono (fun k hk h => ?_)
      · rcases h with h | h
        · exact .inl h
        · have h : k = D := h
          have hwW2 := Nat.le_trans hu.size hu2.size
          omega
      · rcases h with h | h
        · exact h
        · omega
  case stop =>
    rintro D c pre W _ _ h _
    exact h.elim
end Go.Proofs.Ytmdladcfckoglaa

namespace Go.Proofs.Ytmdladcfckoglaa
open Go.RowKit Go.Shelf
attribute [local go_sem] Oper.semAt_some

/-- The zeros ahead of a one: (how many, OK), or (0, ErrForm), or (0, ErrShort). -/
def zscan (most : Nat) : List Nat → Nat → Nat × Nat
  | [], _ => (0, 3)
  | x :: xs, n => if x = 1 then (n, 0) else if n = most then (0, 4) else zscan most xs (n + 1)
theorem zscan_skip (most : Nat) : ∀ (pre rest : List Nat) (n : Nat), (∀ y ∈ pre, y = 0) → n + pre.length ≤ most → zscan most (pre ++ rest) n = zscan most rest (n + pre.length)
  | [], rest, n, _, _ => by simp
  | x :: pre, rest, n, h, hl => by
    have hx := h x List.mem_cons_self
    subst hx
    rw [List.length_cons] at hl
    rw [List.cons_append, zscan, if_neg (by decide), if_neg (by omega), zscan_skip most pre rest (n + 1) (fun y hy => h y (List.mem_cons_of_mem _ hy)) (by omega), List.length_cons]
    congr 1; omega

theorem zret {w W W2 W3 : World} {B1 B2 B3 D : Nat} {u v : Value} {t1 t2 : TypeId} (hu : Upd NoB w W) (hu2 : Upd NoB W W2) (u3 : Upd (fun k => k = B1 ∨ k = B2 ∨ k = B3) W2 W3)
    (k1 : W3.heap[B1]? = some (.cells #[u] t1 (0, 0))) (k2 : W3.heap[B2]? = some (.cells #[v] t2 (0, 0))) (kD : W3.heap[D]? = some (.deferred (some []))) (hD : W2.heap.size ≤ D) (h1 : w.heap.size ≤ B1) (h2 : w.heap.size ≤ B2) (h3 : w.heap.size ≤ B3) :
    (W3.putObj D (.deferred none)).cell? ⟨B1, 0, none⟩ = some u ∧ (W3.putObj D (.deferred none)).cell? ⟨B2, 0, none⟩ = some v ∧ Upd NoB w (W3.putObj D (.deferred none)) := by
  have d1 : B1 ≠ D := fun e => by subst e; rw [k1] at kD; cases kD
  have d2 : B2 ≠ D := fun e => by subst e; rw [k2] at kD; cases kD
  refine ⟨cell_of_one ((World.putObj_heap_other d1).trans k1), cell_of_one ((World.putObj_heap_other d2).trans k2), ?_⟩
  have hs := Nat.le_trans hu.size hu2.size
  refine Upd.grown ((hu.then hu2).trans u3 ?_) (grownBy_putObj' _ _ _) ?_
  · rintro i hi (rfl | rfl | rfl) <;> omega
  · intro k e hk
    cases e
    omega

set_option maxRecDepth 100000 in
set_option maxHeartbeats 1000000 in
theorem zeros_any (b : Nat) (sv : Value) (zs : List Nat) (cnt at_ most : Nat) (w : World) (h : RAt w b sv zs cnt at_) (hm : most ≤ 1000) :
    Calls Try.prog 111 #[.pointer (some ⟨b, 0, none⟩), .int .i64 most] w fun e w' => e = .returned (.tuple #[.int .i64 (zscan most (bitsOf zs at_ (cnt - at_)) 0).1, .int .i64 (zscan most (bitsOf zs at_ (cnt - at_)) 0).2]) ∧ Upd NoB w w' := by
  have hbs := lt_of_block h.1
  have hcnt := h.2.2.2.2.1
  have hat := h.2.2.2.1
  have hsv : ∃ a cap, sv = .slice a zs.length cap := by obtain ⟨_, ⟨_, a, cap, rfl, _⟩, _⟩ := h; exact ⟨a, cap, rfl⟩
  obtain ⟨a, cap, rfl⟩ := hsv
  have H := Lib.hid h; clear h
  refine (callsIn_wide (n := 2)).1 (callsIn_of_wp_marks Try.func111 rfl trivial (wpIn_wide.2 ?_) rfl)
  simp only [Try.ntmps111, List.size_toArray, List.length_cons, List.length_nil, Nat.reduceAdd, Nat.reduceSub, Array.replicate_succ, Array.replicate_zero, List.push_toArray, List.append_toArray, List.nil_append, List.cons_append]
  go_wp2
  obtain ⟨W, hW⟩ : ∃ W, W = (((w.alloc (.cells #[.int .i64 most] 3)).alloc (.cells #[.int .i64 0] 3)).alloc (.cells #[.int .i64 0] 22)).alloc (.cells #[.int .i64 0] 3) := ⟨_, rfl⟩
  rw [← hW]
  have hu : Upd NoB w W := by rw [hW]; exact ((((Upd.refl _ _).alloc _).alloc _).alloc _).alloc _
  have hsz : W.heap.size = w.heap.size + 4 := by rw [hW]; simp
  have e0 : W.heap[w.heap.size]? = some (.cells #[.int .i64 most] 3 (0, 0)) := by
    rw [hW]; exact (Below.heap_alloc _ _ _ (by simp; omega)).trans (boxes3 w _ _ _).1
  have e1 : W.heap[w.heap.size + 1]? = some (.cells #[.int .i64 0] 3 (0, 0)) := by
    rw [hW]; exact (Below.heap_alloc _ _ _ (by simp)).trans (boxes3 w _ _ _).2.1
  have e2 : W.heap[w.heap.size + 1 + 1]? = some (.cells #[.int .i64 0] 22 (0, 0)) := by
    rw [hW]; exact (Below.heap_alloc _ _ _ (by simp)).trans (boxes3 w _ _ _).2.2.1
  have e3 : W.heap[w.heap.size + 1 + 1 + 1]? = some (.cells #[.int .i64 0] 3 (0, 0)) := by
    rw [hW]
    have := heap_alloc_new (((w.alloc (.cells #[.int .i64 most] 3)).alloc (.cells #[.int .i64 0] 3)).alloc (.cells #[.int .i64 0] 22)) (.cells #[.int .i64 0] 3)
    rwa [World.size_alloc, World.size_alloc, World.size_alloc] at this
  obtain ⟨B0, hB0⟩ : ∃ B0, B0 = w.heap.size := ⟨_, rfl⟩
  obtain ⟨B1, hB1⟩ : ∃ B1, B1 = w.heap.size + 1 := ⟨_, rfl⟩
  obtain ⟨B2, hB2⟩ : ∃ B2, B2 = w.heap.size + 1 + 1 := ⟨_, rfl⟩
  obtain ⟨B3, hB3⟩ : ∃ B3, B3 = w.heap.size + 1 + 1 + 1 := ⟨_, rfl⟩
  rw [← hB3] at e3
  rw [← hB2] at e2
  rw [← hB1] at e1
  rw [← hB0] at e0
  rw [← hB3, ← hB2, ← hB1, ← hB0]
  have hR := H.out.upd hu (fun k _ => noB k)
  have c0 := hR.c0
  have c1 := hR.c1
  have c2 := hR.c2
  have l0 : w.heap.size ≤ B0 := by omega
  have l01 : B0 < B1 := by omega
  have l12 : B1 < B2 := by omega
  have l23 : B2 < B3 := by omega
  have l3 : B3 < W.heap.size := by omega
  have HB0 := Lib.hid hB0; clear hB0
  have HB1 := Lib.hid hB1; clear hB1
  have HB2 := Lib.hid hB2; clear hB2
  have HB3 := Lib.hid hB3; clear hB3
  have E0 := Lib.hid e0; clear e0
  have E1 := Lib.hid e1; clear e1
  have E2 := Lib.hid e2; clear e2
  have E3 := Lib.hid e3; clear e3
  have HR := Lib.hid hR; clear hR
  have HW := Lib.hid hW; clear hW
  have Hsz := Lib.hid hsz; clear hsz
  refine wp_region_still_tail 12 (by kernel_rfl) (by kernel_rfl) ?_
  simp only [List.take_succ_cons, List.take_zero, List.drop_succ_cons, List.drop_zero]
  repeat still_step
  refine wpStill_nil ?_
  change wpList _ _ _ _ _ (World.drew W)
  go_wp2_with (go_at_call 64; refine (between_in _ _ _ _ _ _).mono ?_; rintro e w2 ⟨rfl, rfl⟩)
  obtain ⟨W2, hW2⟩ : ∃ W2, W2 = (((W.alloc (.cells #[.slice a zs.length cap] 32)).alloc (.cells #[.int .i64 at_] 3)).alloc (.cells #[.int .i64 cnt] 3)).drew := ⟨_, rfl⟩
  rw [← hW2]
  obtain ⟨b0, b1, b2, hu2⟩ := boxes3 W (.cells #[.slice a zs.length cap] 32) (.cells #[.int .i64 at_] 3) (.cells #[.int .i64 cnt] 3)
  have hu2 : Upd NoB W W2 := by rw [hW2]; exact hu2.drew
  have b0 : W2.heap[W.heap.size]? = some (.cells #[.slice a zs.length cap] 32 (0, 0)) := by rw [hW2]; exact b0
  have b1 : W2.heap[W.heap.size + 1]? = some (.cells #[.int .i64 at_] 3 (0, 0)) := by rw [hW2]; exact b1
  have b2 : W2.heap[W.heap.size + 2]? = some (.cells #[.int .i64 cnt] 3 (0, 0)) := by rw [hW2]; exact b2
  have HW2 := Lib.hid hW2; clear hW2
  have hR2 := HR.out.upd hu2 (fun k _ => noB k)
  have f0 := hu2.heap E0.out (noB _)
  have f1 := hu2.heap E1.out (noB _)
  have f2 := hu2.heap E2.out (noB _)
  have f3 := hu2.heap E3.out (noB _)
  have hD : ∀ k, betweenD W.heap.size (.slice a zs.length cap) zs k → k < W2.heap.size ∧ k ≠ B0 ∧ k ≠ B1 ∧ k ≠ B2 ∧ k ≠ B3 := by
    rintro k (rfl | rfl | rfl | ⟨hz, hk⟩)
    · exact ⟨lt_of_block b0, by omega, by omega, by omega, by omega⟩
    · exact ⟨lt_of_block b1, by omega, by omega, by omega, by omega⟩
    · exact ⟨lt_of_block b2, by omega, by omega, by omega, by omega⟩
    · obtain ⟨c, t, fr, hc⟩ := H.out.2.1.lt hz k hk
      have := lt_of_block hc
      have := hu.size
      have := hu2.size
      exact ⟨by omega, by omega, by omega, by omega, by omega⟩
  have hsW2 := hu2.size
  have hn : at_ + (cnt - at_) = cnt := by omega
  obtain ⟨N, hN⟩ : ∃ N, N = cnt - at_ := ⟨_, rfl⟩
  refine (wpIn_wide (n := 2)).1 (wpIn_rangeFunc_ownG rfl (by omega) (gf := 94) (lb := betweenLb W.heap.size) rfl trivial (enters_of Try.func94 (by kernel_rfl) rfl)
    (between_seq W.heap.size _ zs at_ (cnt - at_) W2 (by have := hR2.2.2.1; omega) hR2.2.2.2.2.2 (cell_of_one b1) (by rw [hn]; exact cell_of_one b2) (cell_of_one b0) hR2.2.1 (fun k hk => (hD k hk).1)) (fun h k => h.trans k)
    (fun W' l o o' hl _ _ _ => keepD_putObj (fun hd => by have := (hD _ hd).1; omega)) (Below.refl _ _) (fun _ => rfl)
    (fun pre W' => (∀ y ∈ pre.map Subtype.val, y = 0) ∧ pre.length ≤ most ∧ W'.heap[B0]? = some (.cells #[.int .i64 most] 3 (0, 0)) ∧ W'.heap[B1]? = some (.cells #[.int .i64 0] 3 (0, 0)) ∧ W'.heap[B2]? = some (.cells #[.int .i64 0] 22 (0, 0)) ∧
      W'.heap[B3]? = some (.cells #[.int .i64 (pre.length : Nat)] 3 (0, 0)) ∧ Upd (fun k => k = B1 ∨ k = B2 ∨ k = B3) W2 W')
    (fun c pre W' => c = .ret ∧ ∃ p x r1 r2, pre.map Subtype.val = p ++ [x] ∧ (∀ y ∈ p, y = 0) ∧ p.length ≤ most ∧ ((x = 1 ∧ r1 = p.length ∧ r2 = 0) ∨ (x = 0 ∧ p.length = most ∧ r1 = 0 ∧ r2 = 4)) ∧
      W'.heap[B1]? = some (.cells #[.int .i64 (r1 : Nat)] 3 (0, 0)) ∧ W'.heap[B2]? = some (.cells #[.int .i64 (r2 : Nat)] 22 (0, 0)) ∧ Upd (fun k => k = B1 ∨ k = B2 ∨ k = B3) W2 W')
    ?hI ?hIx ⟨by simp, by simp, f0, f1, f2, f3, Upd.refl _ _⟩
    (fun x => { tmps := #[.pointer (some ⟨b, 0, none⟩), .int .i64 most, undef, .pointer (some ⟨B0, 0, none⟩), .pointer (some ⟨B1, 0, none⟩), .pointer (some ⟨B2, 0, none⟩), .pointer (some ⟨B3, 0, none⟩), .int .i64 (x.1 : Nat), .pointer (some ⟨b, 0, none⟩), .pointer (some ⟨b, 0, none⟩), .pointer (some ⟨b, 0, none⟩), .slice a zs.length cap,
      .pointer (some ⟨b, 0, none⟩), .pointer (some ⟨b, 0, none⟩), .pointer (some ⟨b, 2, none⟩), .int .i64 at_, .pointer (some ⟨b, 0, none⟩), .pointer (some ⟨b, 0, none⟩), .pointer (some ⟨b, 1, none⟩), .int .i64 cnt,
      .func (.func 94) #[] #[.pointer (some ⟨W.heap.size + 1, 0, none⟩), .pointer (some ⟨W.heap.size + 2, 0, none⟩), .pointer (some ⟨W.heap.size, 0, none⟩)], .int .i64 (x.1 : Nat), undef, undef, undef, undef, undef, undef, undef, undef], defers := [] }) ?assign ?body ?done ?stop)
  case hI =>
    rintro s A B row ⟨h1, h2, h3, h4, h5, h6, h7⟩ hg hr
    have hne : ∀ k c t fr, A.heap[k]? = some (.cells c t fr) → some k ≠ row := fun k c t fr hk e => by
      obtain ⟨o, ho, hco⟩ := (hr k e.symm).2
      rw [hk] at ho; cases ho; cases hco
    exact ⟨h1, h2, (hg.block _ (lt_of_block h3) (hne _ _ _ _ h3)).trans h3, (hg.block _ (lt_of_block h4) (hne _ _ _ _ h4)).trans h4, (hg.block _ (lt_of_block h5) (hne _ _ _ _ h5)).trans h5, (hg.block _ (lt_of_block h6) (hne _ _ _ _ h6)).trans h6, h7.grown hg (fun k e hk => by have := (hr k e).1; omega)⟩
  case hIx =>
    rintro c s A B row ⟨hc, p, x, r1, r2, h1, h2, h3, h4, h5, h6, h7⟩ hg hr
    have hne : ∀ k c t fr, A.heap[k]? = some (.cells c t fr) → some k ≠ row := fun k c t fr hk e => by
      obtain ⟨o, ho, hco⟩ := (hr k e.symm).2
      rw [hk] at ho; cases ho; cases hco
    exact ⟨hc, p, x, r1, r2, h1, h2, h3, h4, (hg.block _ (lt_of_block h5) (hne _ _ _ _ h5)).trans h5, (hg.block _ (lt_of_block h6) (hne _ _ _ _ h6)).trans h6, h7.grown hg (fun k e hk => by have := (hr k e).1; omega)⟩
  case assign =>
    intro l x W' K hK
    gi_wp2
    exact hK
  case body =>
    rintro l pre ⟨x, hx⟩ W' ⟨h1, h2, h3, h4, h5, h6, h7⟩ hNN
    have g0 := cell_of_one h3
    have g1 := cell_of_one h4
    have g2 := cell_of_one h5
    have g3 := cell_of_one h6
    have i1 := free_of_one h4
    have i2 := free_of_one h5
    have i3 := free_of_one h6
    have G1 := Lib.hid h1; clear h1
    have G3 := Lib.hid h3; clear h3
    have G4 := Lib.hid h4; clear h4
    have G5 := Lib.hid h5; clear h5
    have G6 := Lib.hid h6; clear h6
    have hkd : ∀ (u : World), Upd (fun k => k = B1 ∨ k = B2 ∨ k = B3) W' u → KeepD (betweenD W.heap.size (.slice a zs.length cap) zs) W' u := fun u hu' => hu'.keepD (fun k hk => by
      have := hD k hk
      have := h7.size
      refine ⟨by omega, ?_⟩
      rintro (h | h | h) <;> omega)
    have Hkd := Lib.hid hkd; clear hkd
    have two : ∀ (u v : Value), ((W'.setCell ⟨B1, 0, none⟩ u).setCell ⟨B2, 0, none⟩ v).heap[B1]? = some (.cells #[u] 3 (0, 0)) ∧ ((W'.setCell ⟨B1, 0, none⟩ u).setCell ⟨B2, 0, none⟩ v).heap[B2]? = some (.cells #[v] 22 (0, 0)) ∧
        Upd (fun k => k = B1 ∨ k = B2 ∨ k = B3) W2 ((W'.setCell ⟨B1, 0, none⟩ u).setCell ⟨B2, 0, none⟩ v) := fun u v =>
      ⟨block_keep (one_setCell G4.out) (p := ⟨B2, 0, none⟩) (by show B2 ≠ B1; omega) v, one_setCell (block_keep G5.out (p := ⟨B1, 0, none⟩) (by show B1 ≠ B2; omega) u), (h7.setCell _ (fun _ => .inl rfl)).setCell _ (fun _ => .inr (.inl rfl))⟩
    have Two := Lib.hid two; clear two
    by_cases hx1 : x = 1
    · subst hx1
      gi_wp2
      obtain ⟨t1, t2, t3⟩ := Two.out (.int .i64 (pre.length : Nat)) (.int .i64 0)
      exact ⟨((KeepsOthers.setCell _ _ _).trans (KeepsOthers.setCell _ _ _)).from _, rfl, pre.map Subtype.val, 1, pre.length, 0, by simp, G1.out, by simpa using h2, .inl ⟨rfl, by simp, rfl⟩, t1, t2, t3⟩
    · have hx0 : x = 0 := by omega
      subst hx0
      by_cases hmost : pre.length = most
      · have hm1 : ((pre.length : Int) == (most : Int)) = true := by simp; omega
        have hm2 : pre.length = most := hmost
        have Hm := Lib.hid hm2; clear hm2 hmost
        gi_wp2
        obtain ⟨t1, t2, t3⟩ := Two.out (.int .i64 0) (.int .i64 4)
        exact ⟨((KeepsOthers.setCell _ _ _).trans (KeepsOthers.setCell _ _ _)).from _, rfl, pre.map Subtype.val, 0, 0, 4, by simp, G1.out, by simpa using h2, .inr ⟨rfl, by simpa using Hm.out, rfl, rfl⟩, t1, t2, t3⟩
      · have hm1 : ((pre.length : Int) == (most : Int)) = false := by simp; omega
        gi_wp2
        have u3 : Upd (fun k => k = B1 ∨ k = B2 ∨ k = B3) W' (W'.setCell ⟨B3, 0, none⟩ (.int .i64 ((pre.length : Int) + 1))) := (Upd.refl _ _).setCell _ (fun _ => .inr (.inr rfl))
        refine ⟨(KeepsOthers.setCell _ _ _).from _, Hkd.out _ u3, ?_, by simp; omega, block_keep G3.out (by show B3 ≠ B0; omega) _, block_keep G4.out (by show B3 ≠ B1; omega) _, block_keep G5.out (by show B3 ≠ B2; omega) _, ?_, h7.trans u3 (fun _ _ h => h)⟩
        · intro y hy
          rw [List.map_append, List.mem_append] at hy
          rcases hy with hy | hy
          · exact G1.out y hy
          · simpa using hy
        · have := one_setCell G6.out (u := .int .i64 ((pre.length : Int) + 1))
          simpa using this
  case done =>
    rintro D ys W' hD' hS ⟨h1, h2, h3, h4, h5, h6, h7⟩ hK
    have hz : zscan most (bitsOf zs at_ (cnt - at_)) 0 = (0, 3) := by
      have := zscan_skip most (ys.map Subtype.val) [] 0 h1 (by simpa using h2)
      rw [List.append_nil, hS] at this
      rw [this]; rfl
    have g1 := cell_of_one h4
    have g2 := cell_of_one h5
    have i1 := free_of_one h4
    have i2 := free_of_one h5
    have G1 := Lib.hid h1; clear h1
    have G3 := Lib.hid h3; clear h3
    have G4 := Lib.hid h4; clear h4
    have G5 := Lib.hid h5; clear h5
    have G6 := Lib.hid h6; clear h6
    have HK := Lib.hid hK; clear hK
    have HS := Lib.hid hS; clear hS
    have Hz := Lib.hid hz; clear hz
    clear b0 b1 b2 f0 f1 f2 f3 c0 c1 c2
    go_wp2
    have k1 : ((W'.setCell ⟨B1, 0, none⟩ (.int .i64 0)).setCell ⟨B2, 0, none⟩ (.int .i64 3)).heap[B1]? = some (.cells #[.int .i64 0] 3 (0, 0)) := block_keep (one_setCell G4.out) (p := ⟨B2, 0, none⟩) (by show B2 ≠ B1; omega) _
    have k2 : ((W'.setCell ⟨B1, 0, none⟩ (.int .i64 0)).setCell ⟨B2, 0, none⟩ (.int .i64 3)).heap[B2]? = some (.cells #[.int .i64 3] 22 (0, 0)) := one_setCell (block_keep G5.out (p := ⟨B1, 0, none⟩) (by show B1 ≠ B2; omega) _)
    have kD : ((W'.setCell ⟨B1, 0, none⟩ (.int .i64 0)).setCell ⟨B2, 0, none⟩ (.int .i64 3)).heap[D]? = some (.deferred (some [])) := heap_later (heap_later HK.out (by omega)) (by omega)
    have u3 : Upd (fun k => k = B1 ∨ k = B2 ∨ k = B3) W2 ((W'.setCell ⟨B1, 0, none⟩ (.int .i64 0)).setCell ⟨B2, 0, none⟩ (.int .i64 3)) := (h7.setCell _ (fun _ => .inl rfl)).setCell _ (fun _ => .inr (.inl rfl))
    generalize (W'.setCell ⟨B1, 0, none⟩ (.int .i64 0)).setCell ⟨B2, 0, none⟩ (.int .i64 3) = W3 at *
    obtain ⟨p1, p2, p3⟩ := zret hu hu2 u3 k1 k2 kD hD' (by omega) (by omega) (by omega)
    refine ⟨by simp, .inl ⟨_, _, rfl, run_takeDeferred kD, ?_⟩⟩
    refine ⟨.tuple #[.int .i64 0, .int .i64 3], by simp [results, Try.results111, go_sem, p1, p2], by rw [Hz.out]; rfl, p3⟩
  case stop =>
    rintro D c pre W' hD' hp ⟨rfl, p, x, r1, r2, h1, h2, h3, h4, k1, k2, u3⟩ kD
    obtain ⟨p1, p2, p3⟩ := zret hu hu2 u3 k1 k2 kD hD' (by omega) (by omega) (by omega)
    have hz : zscan most (bitsOf zs at_ (cnt - at_)) 0 = (r1, r2) := by
      rw [h1] at hp
      obtain ⟨t, ht⟩ := hp
      rw [← ht, List.append_assoc, zscan_skip most p _ 0 h2 (by simpa using h3), List.singleton_append, zscan]
      rcases h4 with ⟨rfl, rfl, rfl⟩ | ⟨rfl, h4, rfl, rfl⟩
      · simp
      · simp [h4]
    have Hz := Lib.hid hz; clear hz
    have H1 := Lib.hid h1; clear h1
    have H2 := Lib.hid h2; clear h2
    have H4 := Lib.hid h4; clear h4
    have P1 := Lib.hid p1
    have P2 := Lib.hid p2
    gi_wp2
    refine ⟨by simp, .inl ⟨_, _, rfl, run_takeDeferred kD, ?_⟩⟩
    refine ⟨.tuple #[.int .i64 r1, .int .i64 r2], by simp [results, Try.results111, go_sem, p1, p2], by rw [Hz.out], p3⟩
end Go.Proofs.Ytmdladcfckoglaa

namespace Go.Proofs.Ytmdladcfckoglaa
open Go.RowKit Go.Shelf

/-- value, error, position -/
def getR (zs : List Nat) (cnt at_ : Nat) (n : Int) : Int × Int × Nat :=
  if n < 0 ∨ 32 < n then (0, 1, at_) else if (cnt : Int) - at_ < n then (0, 3, at_) else ((valBits (bitsOf zs at_ n.toNat) : Int), 0, at_ + n.toNat)
def sgnR (zs : List Nat) (cnt at_ : Nat) (n : Int) : Int × Int × Nat :=
  if n < 1 ∨ 32 < n then (0, 1, at_) else if (cnt : Int) - at_ < n then (0, 3, at_) else
    ((if 2 ^ (n.toNat - 1) ≤ valBits (bitsOf zs at_ n.toNat) then (valBits (bitsOf zs at_ n.toNat) : Int) - 2 ^ n.toNat else valBits (bitsOf zs at_ n.toNat)), 0, at_ + n.toNat)
def unaR (zs : List Nat) (cnt at_ : Nat) (n : Int) : Int × Int × Nat :=
  if n < 0 ∨ 1000 < n then (0, 1, at_) else
    if (zscan n.toNat (bitsOf zs at_ (cnt - at_)) 0).2 = 0 then ((zscan n.toNat (bitsOf zs at_ (cnt - at_)) 0).1, 0, at_ + ((zscan n.toNat (bitsOf zs at_ (cnt - at_)) 0).1 + 1)) else (0, (zscan n.toNat (bitsOf zs at_ (cnt - at_)) 0).2, at_)
def gamR (zs : List Nat) (cnt at_ : Nat) : Int × Int × Nat :=
  if (zscan 20 (bitsOf zs at_ (cnt - at_)) 0).2 = 0 then
    if (cnt : Int) - at_ < 2 * (zscan 20 (bitsOf zs at_ (cnt - at_)) 0).1 + 1 then (0, 3, at_) else
      ((valBits (bitsOf zs (at_ + (zscan 20 (bitsOf zs at_ (cnt - at_)) 0).1) ((zscan 20 (bitsOf zs at_ (cnt - at_)) 0).1 + 1)) : Int), 0, at_ + (zscan 20 (bitsOf zs at_ (cnt - at_)) 0).1 + ((zscan 20 (bitsOf zs at_ (cnt - at_)) 0).1 + 1))
  else (0, (zscan 20 (bitsOf zs at_ (cnt - at_)) 0).2, at_)

/-- What a call of a reader comes to. -/
def RRes (b : Nat) (sv : Value) (zs : List Nat) (cnt : Nat) (w : World) (r : Int × Int × Nat) (e : Ending) (w' : World) : Prop :=
  e = .returned (.tuple #[.int .i64 r.1, .int .i64 r.2.1]) ∧ RAt w' b sv zs cnt r.2.2 ∧ Upd (fun k => k = b) w w'

theorem RAt.sv {w : World} {b : Nat} {sv : Value} {zs : List Nat} {cnt at_ : Nat} (h : RAt w b sv zs cnt at_) : ∃ a cap, sv = .slice a zs.length cap := by
  obtain ⟨_, ⟨_, a, cap, rfl, _⟩, _⟩ := h; exact ⟨a, cap, rfl⟩
theorem RAt.drew {w : World} {b : Nat} {sv : Value} {zs : List Nat} {cnt at_ : Nat} (h : RAt w b sv zs cnt at_) : RAt w.drew b sv zs cnt at_ := h
theorem nob {b : Nat} {w w' : World} (h : Upd NoB w w') : Upd (fun k => k = b) w w' := h.mono (fun k _ hk => (noB k hk).elim)

theorem get_nil (n : Int) (w : World) : Calls Try.prog 98 #[.pointer none, .int .i64 n] w fun e w' => e = .returned (.tuple #[.int .i64 0, .int .i64 1]) ∧ w = w' := by
  go_enter Try.func98, Try.ntmps98
  go_wp2
  go_ret2
  exact ⟨rfl, rfl⟩

set_option maxRecDepth 100000 in
set_option maxHeartbeats 1000000 in
theorem get_any (b : Nat) (sv : Value) (zs : List Nat) (cnt at_ : Nat) (n : Int) (w : World) (h : RAt w b sv zs cnt at_) (hsep : zs ≠ [] → sv.ownBlock ≠ some b) :
    Calls Try.prog 98 #[.pointer (some ⟨b, 0, none⟩), .int .i64 n] w fun e w' => RRes b sv zs cnt w (getR zs cnt at_ n) e w' := by
  have c1 := h.c1
  have c2 := h.c2
  have hcnt := h.2.2.2.2.1
  have hat := h.2.2.2.1
  have H := Lib.hid h; clear h
  by_cases h1 : n < 0
  · have hr : getR zs cnt at_ n = (0, 1, at_) := if_pos (.inl h1)
    have Hr := Lib.hid hr; clear hr
    go_enter Try.func98, Try.ntmps98
    go_wp2
    go_ret2
    rw [Hr.out]
    exact ⟨rfl, H.out, Upd.refl _ _⟩
  by_cases h2 : 32 < n
  · have hr : getR zs cnt at_ n = (0, 1, at_) := if_pos (.inr h2)
    have Hr := Lib.hid hr; clear hr
    go_enter Try.func98, Try.ntmps98
    go_wp2
    go_ret2
    rw [Hr.out]
    exact ⟨rfl, H.out, Upd.refl _ _⟩
  obtain ⟨m, rfl⟩ := Int.eq_ofNat_of_zero_le (show 0 ≤ n by omega)
  by_cases h3 : (cnt : Int) - at_ < m
  · have hr : getR zs cnt at_ m = (0, 3, at_) := by rw [getR, if_neg (by omega), if_pos h3]
    have Hr := Lib.hid hr; clear hr
    go_enter Try.func98, Try.ntmps98
    go_wp2_with (go_at_call 47; refine (left_any b cnt at_ _ c1 c2 hcnt hat).mono ?_; rintro e w2 ⟨rfl, rfl⟩)
    go_ret2
    rw [Hr.out]
    exact ⟨rfl, H.out.drew, (Upd.refl _ _).drew⟩
  · have hr : getR zs cnt at_ m = ((valBits (bitsOf zs at_ m) : Int), 0, at_ + m) := by rw [getR, if_neg (by omega), if_neg h3, Int.toNat_natCast]
    have Hr := Lib.hid hr; clear hr
    have hm : at_ + m ≤ cnt := by omega
    have hm40 : m ≤ 40 := by omega
    go_enter Try.func98, Try.ntmps98
    go_wp2_with (first | (go_at_call 47; refine (left_any b cnt at_ _ c1 c2 hcnt hat).mono ?_; rintro e w2 ⟨rfl, rfl⟩) | (go_at_call 112; refine (rnumber_any b sv zs cnt at_ m _ H.out.drew hm hm40 hsep).mono ?_; rintro e w2 ⟨rfl, hr2, hu2⟩))
    go_ret2
    rw [Hr.out]
    exact ⟨rfl, hr2, (nob (Upd.refl _ _).drew).trans hu2 (fun _ _ h => h)⟩
end Go.Proofs.Ytmdladcfckoglaa

namespace Go.Proofs.Ytmdladcfckoglaa
open Go.RowKit Go.Shelf

theorem bitsOf_length (zs : List Nat) (s n : Nat) : (bitsOf zs s n).length = n := by simp [bitsOf]
theorem bitsOf_01 (zs : List Nat) (s n : Nat) : ∀ x ∈ bitsOf zs s n, x ≤ 1 := fun x hx => by
  simp only [bitsOf, List.mem_map] at hx
  obtain ⟨i, _, rfl⟩ := hx
  exact bitOf_le _ _
theorem zscan_le (most : Nat) : ∀ (l : List Nat) (n : Nat), (zscan most l n).2 = 0 → n ≤ (zscan most l n).1 ∧ (zscan most l n).1 + 1 ≤ n + l.length ∧ (n ≤ most → (zscan most l n).1 ≤ most)
  | [], n, h => by simp [zscan] at h
  | x :: l, n, h => by
    rw [zscan] at h ⊢
    by_cases hx : x = 1
    · simp only [if_pos hx] at h ⊢
      simp
    · simp only [if_neg hx] at h ⊢
      by_cases hm : n = most
      · simp [if_pos hm] at h
      · simp only [if_neg hm] at h ⊢
        have := zscan_le most l (n + 1) h
        rw [List.length_cons]
        omega
theorem zscan_err (most : Nat) : ∀ (l : List Nat) (n : Nat), (zscan most l n).2 ≠ 0 → (zscan most l n).1 = 0
  | [], n, h => rfl
  | x :: l, n, h => by
    rw [zscan] at h ⊢
    by_cases hx : x = 1
    · simp [if_pos hx] at h
    · simp only [if_neg hx] at h ⊢
      by_cases hm : n = most
      · simp only [if_pos hm]
      · simp only [if_neg hm] at h ⊢
        exact zscan_err most l (n + 1) h

theorem RAt.move {w : World} {b : Nat} {sv : Value} {zs : List Nat} {cnt at_ : Nat} (h : RAt w b sv zs cnt at_) (hsep : zs ≠ [] → sv.ownBlock ≠ some b) (x : Nat) (hx : x ≤ cnt) :
    RAt (w.setCell ⟨b, 2, none⟩ (.int .i64 x)) b sv zs cnt x ∧ Upd (fun k => k = b) w (w.setCell ⟨b, 2, none⟩ (.int .i64 x)) := by
  have u : Upd (fun k => k = b) w (w.setCell ⟨b, 2, none⟩ (.int .i64 x)) := (Upd.refl _ _).setCell _ (fun _ => rfl)
  refine ⟨⟨block_set h.1 _, h.2.1.keep (D := fun k => zs ≠ [] ∧ sv.ownBlock = some k) (u.keepD (fun k hk => ?_)) (fun hz k hk => ⟨hz, hk⟩), h.2.2.1, hx, h.2.2.2.2⟩, u⟩
  obtain ⟨c, t, fr, hc⟩ := h.2.1.lt hk.1 k hk.2
  refine ⟨lt_of_block hc, ?_⟩
  rintro rfl
  exact hsep hk.1 hk.2

set_option maxRecDepth 100000 in
set_option maxHeartbeats 1000000 in
theorem runary_any (b : Nat) (sv : Value) (zs : List Nat) (cnt at_ : Nat) (n : Int) (w : World) (h : RAt w b sv zs cnt at_) (hsep : zs ≠ [] → sv.ownBlock ≠ some b) :
    Calls Try.prog 97 #[.pointer (some ⟨b, 0, none⟩), .int .i64 n] w fun e w' => RRes b sv zs cnt w (unaR zs cnt at_ n) e w' := by
  have hcnt := h.2.2.2.2.1
  have hat := h.2.2.2.1
  have H := Lib.hid h; clear h
  by_cases h1 : n < 0
  · have hr : unaR zs cnt at_ n = (0, 1, at_) := if_pos (.inl h1)
    have Hr := Lib.hid hr; clear hr
    go_enter Try.func97, Try.ntmps97
    go_wp2
    go_ret2
    rw [Hr.out]
    exact ⟨rfl, H.out, Upd.refl _ _⟩
  by_cases h2 : 1000 < n
  · have hr : unaR zs cnt at_ n = (0, 1, at_) := if_pos (.inr h2)
    have Hr := Lib.hid hr; clear hr
    go_enter Try.func97, Try.ntmps97
    go_wp2
    go_ret2
    rw [Hr.out]
    exact ⟨rfl, H.out, Upd.refl _ _⟩
  obtain ⟨m, rfl⟩ := Int.eq_ofNat_of_zero_le (show 0 ≤ n by omega)
  have hz := zeros_any b sv zs cnt at_ m w H.out (by omega)
  have hle := zscan_le m (bitsOf zs at_ (cnt - at_)) 0
  rw [bitsOf_length] at hle
  have hr : unaR zs cnt at_ m = if (zscan m (bitsOf zs at_ (cnt - at_)) 0).2 = 0 then (((zscan m (bitsOf zs at_ (cnt - at_)) 0).1 : Int), 0, at_ + ((zscan m (bitsOf zs at_ (cnt - at_)) 0).1 + 1)) else (0, ((zscan m (bitsOf zs at_ (cnt - at_)) 0).2 : Int), at_) := by
    rw [unaR, if_neg (by omega), Int.toNat_natCast]
  generalize (zscan m (bitsOf zs at_ (cnt - at_)) 0).1 = r1 at *
  generalize (zscan m (bitsOf zs at_ (cnt - at_)) 0).2 = r2 at *
  have Hz := Lib.hid hz; clear hz
  by_cases h4 : r2 = 0
  · subst h4
    rw [if_pos rfl] at hr
    obtain ⟨l1, l2, l3⟩ := hle rfl
    have Hr := Lib.hid hr; clear hr hle
    have hr1 : r1 ≤ 1048576 := by omega
    have hlast : at_ + (r1 + 1) ≤ cnt := by omega
    have hc0 := H.out.c2
    clear l3
    go_enter Try.func97, Try.ntmps97
    go_wp2_with (go_at_call 111; refine Hz.out.mono ?_; rintro e w2 ⟨rfl, hu2⟩; have hR2 := H.out.upd hu2 (fun k _ => noB k); have hc2 := hR2.c2; have hf2 := blk_free hR2.1 2; have HR2 := Lib.hid hR2; clear hR2)
    go_ret2
    rw [Hr.out]
    obtain ⟨m1, m2⟩ := HR2.out.move hsep (at_ + (r1 + 1)) hlast
    have e1 : (at_ : Int) + (r1 + 1) = ((at_ + (r1 + 1) : Nat) : Int) := by omega
    rw [e1]
    exact ⟨rfl, m1, (nob hu2).trans m2 (fun _ _ h => h)⟩
  · rw [if_neg h4] at hr
    have h4b : ((r2 : Int) != 0) = true := by simp; omega
    have Hr := Lib.hid hr; clear hr hle
    go_enter Try.func97, Try.ntmps97
    go_wp2_with (go_at_call 111; refine Hz.out.mono ?_; rintro e w2 ⟨rfl, hu2⟩)
    go_ret2
    rw [Hr.out]
    exact ⟨rfl, H.out.upd hu2 (fun k _ => noB k), nob hu2⟩
theorem runary_nil (n : Int) (w : World) : Calls Try.prog 97 #[.pointer none, .int .i64 n] w fun e w' => e = .returned (.tuple #[.int .i64 0, .int .i64 1]) ∧ w = w' := by
  go_enter Try.func97, Try.ntmps97
  go_wp2
  go_ret2
  exact ⟨rfl, rfl⟩
end Go.Proofs.Ytmdladcfckoglaa

namespace Go.Proofs.Ytmdladcfckoglaa
open Go.RowKit Go.Shelf

def seekR (cnt at_ : Nat) (n : Int) : Int × Nat := if n < 0 ∨ (cnt : Int) < n then (6, at_) else (0, n.toNat)
set_option maxRecDepth 100000 in
theorem seek_any (b : Nat) (sv : Value) (zs : List Nat) (cnt at_ : Nat) (n : Int) (w : World) (h : RAt w b sv zs cnt at_) (hsep : zs ≠ [] → sv.ownBlock ≠ some b) :
    Calls Try.prog 35 #[.pointer (some ⟨b, 0, none⟩), .int .i64 n] w fun e w' => e = .returned (.int .i64 (seekR cnt at_ n).1) ∧ RAt w' b sv zs cnt (seekR cnt at_ n).2 ∧ Upd (fun k => k = b) w w' := by
  have c1 := h.c1
  have c2 := h.c2
  have f2 := blk_free h.1 2
  have H := Lib.hid h; clear h
  by_cases h1 : n < 0
  · have hr : seekR cnt at_ n = (6, at_) := if_pos (.inl h1)
    have Hr := Lib.hid hr; clear hr
    go_enter Try.func35, Try.ntmps35
    go_wp2
    go_ret
    rw [Hr.out]
    exact ⟨rfl, H.out, Upd.refl _ _⟩
  by_cases h2 : (cnt : Int) < n
  · have hr : seekR cnt at_ n = (6, at_) := if_pos (.inr h2)
    have Hr := Lib.hid hr; clear hr
    go_enter Try.func35, Try.ntmps35
    go_wp2
    go_ret
    rw [Hr.out]
    exact ⟨rfl, H.out, Upd.refl _ _⟩
  obtain ⟨m, rfl⟩ := Int.eq_ofNat_of_zero_le (show 0 ≤ n by omega)
  have hr : seekR cnt at_ m = (0, m) := by rw [seekR, if_neg (by omega), Int.toNat_natCast]
  obtain ⟨m1, m2⟩ := H.out.move hsep m (by omega)
  have Hr := Lib.hid hr; clear hr
  have M1 := Lib.hid m1; clear m1
  have M2 := Lib.hid m2; clear m2
  go_enter Try.func35, Try.ntmps35
  go_wp2
  go_ret
  rw [Hr.out]
  exact ⟨rfl, M1.out, M2.out⟩
theorem seek_nil (n : Int) (w : World) : Calls Try.prog 35 #[.pointer none, .int .i64 n] w fun e w' => e = .returned (.int .i64 1) ∧ w = w' := by
  go_enter Try.func35, Try.ntmps35
  go_wp2
  go_ret
  exact ⟨rfl, rfl⟩

def alnN (cnt at_ : Nat) : Nat := min ((8 - at_ % 8) % 8) (cnt - at_)
end Go.Proofs.Ytmdladcfckoglaa

namespace Go.Proofs.Ytmdladcfckoglaa
open Go.RowKit Go.Shelf

theorem WAt.row8 {w : World} {b : Nat} {l : List Nat} {v : Value} (h : WAt w b l v) : Row8 w v (pack l) :=
  ⟨by rw [pack_length]; exact h.2.1, fun j => by
    simp only [List.getD_eq_getElem?_getD, pack_get]
    by_cases hj : j < (l.length + 7) / 8
    · rw [if_pos hj]; exact packByte_le h.2.2 j
    · rw [if_neg hj]; simp⟩
/-- What Take comes to. -/
def TRes (b : Nat) (sv : Value) (zs : List Nat) (cnt : Nat) (w : World) (out : List Nat) (err : Int) (at' : Nat) (e : Ending) (w' : World) : Prop :=
  ∃ v, e = .returned (.tuple #[v, .int .i64 err]) ∧ Row8 w' v out ∧ newB w v ∧ RAt w' b sv zs cnt at' ∧ Upd (fun k => k = b) w w'

theorem wpost_cell {b : Nat} {v0 : Value} {w w' : World} {l : List Nat} (h : WPost b v0 w l w') {p : Addr} {u : Value} (hc : w.cell? p = some u) (h1 : p.block ≠ b) (h2 : v0.ownBlock ≠ some p.block) : w'.cell? p = some u := by
  obtain ⟨v, _, hu, _⟩ := h
  exact hu.cell hc (fun h => h.elim h1 h2)
end Go.Proofs.Ytmdladcfckoglaa

namespace Go.Proofs.Ytmdladcfckoglaa
open Go.RowKit Go.Shelf

def takeOut (zs : List Nat) (cnt at_ : Nat) (n : Int) : List Nat × Int × Nat :=
  if n < 0 then ([], 1, at_) else if (cnt : Int) - at_ < n then ([], 3, at_) else (pack (bitsOf zs at_ n.toNat), 0, at_ + n.toNat)
theorem row8_nil (w : World) : Row8 w (.slice none 0 0) [] := ⟨World.ownsRow_nil _ _ _ _, fun j => by simp⟩
/-- Open: ErrArg, ErrFull, or a reader of the first n bits. -/
def ORes (w : World) (zs : List Nat) (n : Int) (e : Ending) (w' : World) : Prop :=
  ((n < 0 ∨ 8 * (zs.length : Int) < n) ∧ e = .returned (.tuple #[.pointer none, .int .i64 1]) ∧ Upd NoB w w') ∨
  (¬ (n < 0 ∨ 8 * (zs.length : Int) < n) ∧ 1048576 < n ∧ e = .returned (.tuple #[.pointer none, .int .i64 2]) ∧ Upd NoB w w') ∨
  (¬ (n < 0 ∨ 8 * (zs.length : Int) < n) ∧ n ≤ 1048576 ∧ ∃ p sv, e = .returned (.tuple #[.pointer (some ⟨p, 0, none⟩), .int .i64 0]) ∧ w.heap.size ≤ p ∧ RAt w' p sv (zs.take ((n.toNat + 7) / 8)) n.toNat 0 ∧ newB w sv ∧ sv.ownBlock ≠ some p ∧ Upd NoB w w')
theorem row8_slice {w : World} {v : Value} {zs : List Nat} (h : Row8 w v zs) : ∃ a c, v = .slice a zs.length c := by
  rcases h.1.2 with ⟨rfl, hn⟩ | ⟨g, cap, cur, rfl, _⟩
  · exact ⟨none, 0, by rw [hn]⟩
  · exact ⟨_, _, rfl⟩
theorem run_slice3 {P : Program} (w : World) (t e : TypeId) (i : TypeInfo) (hu : P.underlying t = some (.slice e)) (hi : P.info? e = some i) (a : Option Addr) (n cap k : Nat) (hk : k ≤ cap) :
    (Instr.slice t (.slice a n cap) none (some (.int .i64 (k : Int))) (some (.int .i64 (k : Int)))).run P w = .ok (.slice a k k) w := by
  have ha : a.map (·.add (0 * i.size)) = a := by cases a <;> simp [Addr.add]
  simp [Instr.slice, Instr.sliceBounds, Instr.sliceBound, asIntOf, run_underlying hu, sizeOf, typeInfo, hi, go_sem, hk]
theorem Bytes.cut {w : World} {a : Option Addr} {cap : Nat} {zs : List Nat} (h : Bytes w (.slice a zs.length cap) zs) {k : Nat} (hk : k ≤ zs.length) : Bytes w (.slice a k k) (zs.take k) := by
  obtain ⟨h1, a', cap', he, hlc, h2⟩ := h
  cases he
  refine ⟨fun j => ?_, a, k, by simp [Nat.min_eq_left hk], by simp; omega, ?_⟩
  · simp only [List.getD_eq_getElem?_getD, List.getElem?_take]
    by_cases hj : j < k
    · rw [if_pos hj]; have := h1 j; rwa [List.getD_eq_getElem?_getD] at this
    · rw [if_neg hj]; simp
  · rcases h2 with rfl | ⟨b, off, rfl, h2⟩
    · exact .inl (by simp)
    · refine .inr ⟨b, off, rfl, fun j hj => ?_⟩
      have hj' : j < k := by simp at hj; omega
      rw [h2 j (by omega)]
      simp only [List.getD_eq_getElem?_getD, List.getElem?_take, if_pos hj']
set_option maxRecDepth 100000 in
set_option maxHeartbeats 1000000 in
theorem open_any (sv : Value) (zs : List Nat) (n : Int) (w : World) (h : Bytes w sv zs) (hl : zs.length ≤ 140737488355328) :
    Calls Try.prog 33 #[sv, .int .i64 n] w fun e w' => ORes w zs n e w' := by
  obtain ⟨a, cap, rfl⟩ : ∃ a cap, sv = .slice a zs.length cap := by obtain ⟨_, a, cap, rfl, _⟩ := h; exact ⟨a, cap, rfl⟩
  by_cases h1 : n < 0
  · have hr : n < 0 ∨ 8 * (zs.length : Int) < n := .inl h1
    have Hr := Lib.hid hr; clear hr h
    go_enter Try.func33, Try.ntmps33
    go_wp2
    go_ret2
    exact .inl ⟨Hr.out, rfl, Upd.refl _ _⟩
  by_cases h2 : 8 * (zs.length : Int) < n
  · have hr : n < 0 ∨ 8 * (zs.length : Int) < n := .inr h2
    have Hr := Lib.hid hr; clear hr h
    go_enter Try.func33, Try.ntmps33
    go_wp2
    go_ret2
    exact .inl ⟨Hr.out, rfl, Upd.refl _ _⟩
  have hr : ¬ (n < 0 ∨ 8 * (zs.length : Int) < n) := by omega
  have Hr := Lib.hid hr; clear hr
  by_cases h3 : 1048576 < n
  · clear h
    go_enter Try.func33, Try.ntmps33
    go_wp2
    go_ret2
    exact .inr (.inl ⟨Hr.out, h3, rfl, Upd.refl _ _⟩)
  obtain ⟨m, rfl⟩ := Int.eq_ofNat_of_zero_le (show 0 ≤ n by omega)
  have hk : (m + 7) / 8 ≤ zs.length := by omega
  have hcut := h.cut hk
  have hcap : zs.length ≤ cap := by obtain ⟨_, a', cap', he, hlc, _⟩ := h; cases he; exact hlc
  have hlen : (zs.take ((m + 7) / 8)).length = (m + 7) / 8 := by simp; omega
  have hcl := clone_any _ _ w hcut (by omega)
  have q0 : ((m : Int) + 7) / 8 = ((m + 7) / 8 : Nat) := by omega
  have Hq0 := Lib.hid q0
  have HC := Lib.hid hcl; clear hcl h hcut
  have Hlen := Lib.hid hlen; clear hlen
  have hkc : (m + 7) / 8 ≤ cap := by omega
  obtain ⟨i0, hi, hz0, hz1, hz2⟩ := info_parts Try.info5
  have hsl := fun (w : World) => run_slice3 (P := Try.prog) w 32 5 i0 Try.underlying32 hi a zs.length cap ((m + 7) / 8) hkc
  rw [← q0] at hsl
  clear q0
  go_enter Try.func33, Try.ntmps33
  go_wp2_with (go_at_call 76; refine HC.out.mono ?_; rintro e w2 ⟨v, rfl, hr8, hu2, hn2⟩; obtain ⟨a2, c2, rfl⟩ := row8_slice hr8; rw [Hlen.out] at hr8 hn2 ⊢)
  go_ret2
  have hb := heap_alloc_new w2 (.cells #[.slice a2 ((m + 7) / 8) c2, .int .i64 m, .int .i64 0] 97)
  have u3 : Upd NoB w2 (w2.alloc (.cells #[.slice a2 ((m + 7) / 8) c2, .int .i64 m, .int .i64 0] 97)) := (Upd.refl _ _).alloc _
  refine .inr (.inr ⟨Hr.out, by omega, w2.heap.size, .slice a2 ((m + 7) / 8) c2, rfl, hu2.size, ⟨?_, ?_, ?_, Nat.zero_le _, ?_, ?_⟩, hn2, fun e => ?_, hu2.then u3⟩)
  · rw [Int.toNat_natCast]; exact hb
  · rw [Int.toNat_natCast]
    refine hr8.bytes.keep (D := fun k => k < w2.heap.size) (u3.keepD (fun k hk => ⟨hk, noB k⟩)) (fun _ k hk => (hr8.1.lt k hk).2)
  · rw [Int.toNat_natCast, Hlen.out]; omega
  · rw [Int.toNat_natCast]; omega
  · rw [Int.toNat_natCast, Hlen.out]; omega
  · have := (hr8.1.lt _ e).2; omega
end Go.Proofs.Ytmdladcfckoglaa
