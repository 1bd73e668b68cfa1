/- the writer's calls: Align, Append, and those of no writer -/
import Derived.Test.YtjnbnhnkjhnbkaaPuts2
namespace Go.Proofs.Ytjnbnhnkjhnbkaa
open Go.RowKit Go.Shelf

theorem Bytes.lt {w : World} {sv : Value} {zs : List Nat} (h : Bytes w sv zs) (hz : zs ≠ []) : ∀ k, sv.ownBlock = some k → ∃ c t fr, w.heap[k]? = some (.cells c t fr) := by
  obtain ⟨_, a, cap, rfl, _, h2⟩ := h
  rcases h2 with h2 | ⟨b, off, rfl, h2⟩
  · exact absurd h2 hz
  · intro k hk
    have : b = k := by simpa [Value.ownBlock] using hk
    subst this
    have h0 := h2 0 (List.length_pos_iff.2 hz)
    unfold World.cell? at h0
    generalize w.heap[b]? = o at h0 ⊢
    match o with
    | some (.cells c t fr) => exact ⟨c, t, fr, rfl⟩
    | none => cases h0
    | some (.pending ..) => cases h0
    | some (.view ..) => cases h0
    | some (.number ..) => cases h0
    | some (.map ..) => cases h0
    | some (.chan ..) => cases h0
    | some (.stringIter ..) => cases h0
    | some (.mapIter ..) => cases h0
    | some (.loop ..) => cases h0
    | some (.deferred ..) => cases h0
    | some (.coro ..) => cases h0
    | some (.finalizers ..) => cases h0

theorem newOr.not {w : World} {v v' : Value} (h : newOr w v v') {b k : Nat} (hk : k < w.heap.size) (hn : ¬ wfoot b v k) : ¬ wfoot b v' k := by
  rintro (rfl | hv)
  · exact hn (.inl rfl)
  · rcases h k hv with h | h
    · exact hn (.inr h)
    · omega
set_option maxRecDepth 100000 in
set_option maxHeartbeats 1000000 in
/-- feed(between(b, s, s + n), w.add) -/
theorem feeda (b : Nat) (l : List Nat) (v sv : Value) (zs : List Nat) (s n : Nat) (w : World) (h : WAt w b l v) (hl : l.length ≤ 1048576) (hs : Bytes w sv zs) (hsn : s + n ≤ 8 * zs.length) (hn : n ≤ 1048576) (hreach : zs.length ≤ 140737488355328)
    (hsep : zs ≠ [] → ∀ k, sv.ownBlock = some k → ¬ wfoot b v k) (B : Nat) (h0 : w.heap[B]? = some (.cells #[sv] 32 (0, 0))) (h1 : w.heap[B + 1]? = some (.cells #[.int .i64 s] 3 (0, 0))) (h2 : w.heap[B + 2]? = some (.cells #[.int .i64 (s + n : Nat)] 3 (0, 0))) :
    Calls Try.prog 63 #[.func (.func 94) #[] (betweenLb B), .func (.func 65) #[.pointer (some ⟨b, 0, none⟩)] #[]] w fun e w' =>
      e = .returned (.tuple #[]) ∧ WPost b v w (l ++ bitsOf zs s n) w' := by
  have hD : ∀ k, betweenD B sv zs k → k < w.heap.size := by
    rintro k (rfl | rfl | rfl | ⟨hz, hk⟩)
    · exact lt_of_block h0
    · exact lt_of_block h1
    · exact lt_of_block h2
    · obtain ⟨c, t, fr, hc⟩ := hs.lt hz k hk
      exact lt_of_block hc
  refine (feed_in (first := #[.pointer (some ⟨b, 0, none⟩)]) (cap := #[]) (Sp := fun pre => pre.map Subtype.val <+: bitsOf zs s n) (N := n) w (enters_of Try.func94 (by kernel_rfl) rfl) (enters_of Try.func65 (by kernel_rfl) rfl)
    (between_seq B sv zs s n w hsn hreach (cell_of_one h1) (cell_of_one h2) (cell_of_one h0) hs hD) (fun h k => h.trans k) ?_
    (fun pre W => (∃ v', WAt W b (l ++ pre.map Subtype.val) v' ∧ Upd (wfoot b v) w W ∧ newOr w v v' ∧ pre.length ≤ n)) ?_ ?_ ?_).mono ?_
  · intro W k o' hk
    exact keepD_putObj (fun hd => by have := hD _ hd; omega)
  · rintro s' W W' row ⟨v', ha, hu, hn', hlen⟩ hgr hr
    exact ⟨v', ha.grown hgr (fun r e => (hr r e).2), hu.grown hgr (fun k e hk => by have := (hr k e).1; omega), hn', hlen⟩
  · exact ⟨v, by simpa using h, Upd.refl _ _, newOr.refl _ _, by simp⟩
  · rintro pre x W ⟨v', ha, hu, hn', hlen⟩ hN hbox
    refine (add_any b (l ++ pre.map Subtype.val) v' x.1 W ha (by simp; omega) x.2).mono ?_
    rintro e W' ⟨rfl, v2, ha2, hu2, hn2⟩
    have k3 := hu2.heap hbox (ha.not hbox (by decide) (by decide))
    refine ⟨⟨_, rfl⟩, ⟨v2, ?_, ?_, hn'.trans hn2 hu.size, by simp; omega⟩, ?_, notcells_grown hu2 ha.cells _, ?_⟩
    · rw [List.map_append, ← List.append_assoc]; exact ha2
    · refine hu.trans hu2 ?_
      rintro i hi (rfl | hi')
      · exact .inl rfl
      · rcases hn' i hi' with h | h
        · exact .inr h
        · omega
    · intro k hk
      have hlt := hD k hk
      refine hu2.block k (Nat.lt_of_lt_of_le hlt hu.size) (hn'.not hlt ?_)
      rcases hk with rfl | rfl | rfl | ⟨hz, hk⟩
      · exact h.not h0 (by decide) (by decide)
      · exact h.not h1 (by decide) (by decide)
      · exact h.not h2 (by decide) (by decide)
      · exact hsep hz k hk
    · rintro k rfl
      exact k3.trans hbox.symm
  · rintro e W' ⟨rfl, ys, hys, v', ha, hu, hn', _⟩
    exact ⟨rfl, v', by rw [← hys]; exact ha, hu, hn'⟩

def alignBad (x : Int) : Prop := ¬ (0 ≤ x ∧ x ≤ 1)
theorem put_nil (x n : Int) (w : World) : Calls Try.prog 73 #[.pointer none, .int .i64 x, .int .i64 n] w fun e w' => e = .returned (.int .i64 1) ∧ w = w' := by
  go_enter Try.func73, Try.ntmps73
  go_wp2
  go_ret
  exact ⟨rfl, rfl⟩
theorem unary_nil (x : Int) (w : World) : Calls Try.prog 72 #[.pointer none, .int .i64 x] w fun e w' => e = .returned (.int .i64 1) ∧ w = w' := by
  go_enter Try.func72, Try.ntmps72
  go_wp2
  go_ret
  exact ⟨rfl, rfl⟩
theorem append_nil (a : Option Addr) (len cap : Nat) (x : Int) (w : World) : Calls Try.prog 24 #[.pointer none, .slice a len cap, .int .i64 x] w fun e w' => e = .returned (.int .i64 1) ∧ w = w' := by
  go_enter Try.func24, Try.ntmps24
  go_wp2
  go_ret
  exact ⟨rfl, rfl⟩

def appendBad (zs : List Nat) (n : Int) : Prop := ¬ (0 ≤ n ∧ n ≤ 8 * zs.length)
set_option maxRecDepth 100000 in
set_option maxHeartbeats 1000000 in
theorem append_any (b : Nat) (l : List Nat) (v sv : Value) (zs : List Nat) (n : Int) (w : World) (h : WAt w b l v) (hl : l.length ≤ 1048576) (hs : Bytes w sv zs) (hreach : zs.length ≤ 140737488355328)
    (hsep : zs ≠ [] → ∀ k, sv.ownBlock = some k → ¬ wfoot b v k) :
    Calls Try.prog 24 #[.pointer (some ⟨b, 0, none⟩), sv, .int .i64 n] w fun e w' => WRes b v w l (appendBad zs n) (bitsOf zs 0 n.toNat) e w' := by
  have hsv : ∃ a cap, sv = .slice a zs.length cap := by obtain ⟨_, a, cap, rfl, _⟩ := hs; exact ⟨a, cap, rfl⟩
  have hbl : (bitsOf zs 0 n.toNat).length = n.toNat := by simp [bitsOf]
  have hc := h.len
  obtain ⟨a, cap, rfl⟩ := hsv
  by_cases h1 : n < 0
  · have hb : appendBad zs n := fun hh => by omega
    have Hb := Lib.hid hb; clear hb h hs
    go_enter Try.func24, Try.ntmps24
    go_wp2
    go_ret
    exact WRes.bad Hb.out
  by_cases h2 : 8 * (zs.length : Int) < n
  · have hb : appendBad zs n := fun hh => by omega
    have Hb := Lib.hid hb; clear hb h hs
    go_enter Try.func24, Try.ntmps24
    go_wp2
    go_ret
    exact WRes.bad Hb.out
  have hb : ¬ appendBad zs n := fun hh => hh ⟨by omega, by omega⟩
  have Hb := Lib.hid hb; clear hb
  obtain ⟨m, rfl⟩ := Int.eq_ofNat_of_zero_le (show 0 ≤ n by omega)
  rw [Int.toNat_natCast] at hbl ⊢
  have Hbl := Lib.hid hbl; clear hbl
  by_cases h3 : 1048576 - (l.length : Int) < m
  · clear h hs
    go_enter Try.func24, Try.ntmps24
    go_wp2_with (go_at_call 62; refine (room_any b l.length _ hc (by omega)).mono ?_; rintro e w2 ⟨rfl, rfl⟩)
    go_ret
    exact ⟨2, rfl, .inr (.inl ⟨Hb.out, by rw [Hbl.out]; omega, rfl, Upd.refl _ _⟩)⟩
  · have hu : Upd NoB w (((w.alloc (.cells #[.slice a zs.length cap] 32)).alloc (.cells #[.int .i64 (0 : Nat)] 3)).alloc (.cells #[.int .i64 (0 + m : Nat)] 3)) := (((Upd.refl _ _).alloc _).alloc _).alloc _
    have ha1 := h.upd hu (fun k _ => noB k)
    have hs1 := hs.keep (D := fun k => zs ≠ [] ∧ (Value.slice a zs.length cap).ownBlock = some k) (hu.keepD (fun k hk => ⟨by obtain ⟨c, t, fr, hc⟩ := hs.lt hk.1 k hk.2; exact lt_of_block hc, noB k⟩)) (fun hz b hb => ⟨hz, hb⟩)
    have b0 : (((w.alloc (.cells #[.slice a zs.length cap] 32)).alloc (.cells #[.int .i64 (0 : Nat)] 3)).alloc (.cells #[.int .i64 (0 + m : Nat)] 3)).heap[w.heap.size]? = some (.cells #[.slice a zs.length cap] 32 (0, 0)) :=
      (Below.heap_alloc _ _ _ (by simp; omega)).trans ((Below.heap_alloc _ _ _ (by simp)).trans (heap_alloc_new w _))
    have b1 : (((w.alloc (.cells #[.slice a zs.length cap] 32)).alloc (.cells #[.int .i64 (0 : Nat)] 3)).alloc (.cells #[.int .i64 (0 + m : Nat)] 3)).heap[w.heap.size + 1]? = some (.cells #[.int .i64 (0 : Nat)] 3 (0, 0)) := by
      have := heap_alloc_new (w.alloc (.cells #[.slice a zs.length cap] 32)) (.cells #[.int .i64 (0 : Nat)] 3)
      rw [World.size_alloc] at this
      exact (Below.heap_alloc _ _ _ (by simp)).trans this
    have b2 : (((w.alloc (.cells #[.slice a zs.length cap] 32)).alloc (.cells #[.int .i64 (0 : Nat)] 3)).alloc (.cells #[.int .i64 (0 + m : Nat)] 3)).heap[w.heap.size + 2]? = some (.cells #[.int .i64 (0 + m : Nat)] 3 (0, 0)) := by
      have := heap_alloc_new ((w.alloc (.cells #[.slice a zs.length cap] 32)).alloc (.cells #[.int .i64 (0 : Nat)] 3)) (.cells #[.int .i64 (0 + m : Nat)] 3)
      rwa [World.size_alloc, World.size_alloc] at this
    have fa := feeda b l v _ zs 0 m _ ha1 hl hs1 (by omega) (by omega) hreach hsep w.heap.size b0 b1 b2
    simp only [Nat.zero_add, betweenLb] at fa
    have Hfa := Lib.hid fa; clear fa
    clear b0 b1 b2 ha1 hs1 h hs
    have Hu := Lib.hid hu; clear hu
    have Hsep := Lib.hid hsep; clear hsep
    go_enter Try.func24, Try.ntmps24
    go_wp2_with (first | (go_at_call 62; refine (room_any b l.length _ hc (by omega)).mono ?_; rintro e w2 ⟨rfl, rfl⟩) | (go_at_call 64; refine (between_in _ _ _ _ _ _).mono ?_; rintro e w2 ⟨rfl, rfl⟩) | (go_at_call 63; refine Hfa.out.mono ?_; rintro e w3 ⟨rfl, hp⟩))
    go_ret
    refine WRes.after Hu.out ⟨0, rfl, .inr (.inr ⟨Hb.out, by rw [Hbl.out]; omega, rfl, ?_⟩)⟩
    simpa using hp
end Go.Proofs.Ytjnbnhnkjhnbkaa
