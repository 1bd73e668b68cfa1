/- the writer's calls | the writer's calls, more | the writer's calls: Align, Append, and those of no writer -/
import Derived.Test.YtmdladcfckoglaaMA
namespace Go.Proofs.Ytmdladcfckoglaa
open Go.RowKit Go.Shelf

/-- What a call of a writer comes to: ErrArg, ErrFull, or the bits bs are added. -/
def WRes (b : Nat) (v : Value) (w : World) (l : List Nat) (bad : Prop) (bs : List Nat) (e : Ending) (w' : World) : Prop :=
  ∃ r : Int, e = .returned (.int .i64 r) ∧ ((bad ∧ r = 1 ∧ Upd NoB w w') ∨ (¬ bad ∧ 1048576 < l.length + bs.length ∧ r = 2 ∧ Upd NoB w w') ∨ (¬ bad ∧ l.length + bs.length ≤ 1048576 ∧ r = 0 ∧ WPost b v w (l ++ bs) w'))
theorem WRes.bad {b : Nat} {v : Value} {w : World} {l : List Nat} {bad : Prop} {bs : List Nat} (h : bad) : WRes b v w l bad bs (.returned (.int .i64 1)) w := ⟨1, rfl, .inl ⟨h, rfl, Upd.refl _ _⟩⟩

/-- write, as a call of a writer. -/
theorem write_res (b : Nat) (l : List Nat) (v sv : Value) (fs : List Fld) (w : World) (h : WAt w b l v) (hl : l.length ≤ 1048576) (hs : Flds w sv fs) (hf : fs.length ≤ 1000) (bad : Prop) (hbad : ¬ bad) (bs : List Nat) (hbs : bs = fldBits fs) :
    Calls Try.prog 95 #[.pointer (some ⟨b, 0, none⟩), sv] w fun e w' => WRes b v w l bad bs e w' := by
  subst hbs
  by_cases hfit : l.length + fldSum fs ≤ 1048576
  · refine (write_ok b l v sv fs w h (by omega) hs hf hfit).mono ?_
    rintro e w' ⟨rfl, hp⟩
    exact ⟨0, rfl, .inr (.inr ⟨hbad, by rw [fldBits_length]; exact hfit, rfl, hp⟩)⟩
  · refine (write_full b l v sv fs w h (by omega) hs hf (by omega)).mono ?_
    rintro e w' ⟨rfl, hp⟩
    exact ⟨2, rfl, .inr (.inl ⟨hbad, by rw [fldBits_length]; omega, rfl, hp⟩)⟩
/-- Behind blocks of the call's own. -/
theorem WRes.after {b : Nat} {v : Value} {w w1 : World} {l : List Nat} {bad : Prop} {bs : List Nat} {e : Ending} {w' : World} (u : Upd NoB w w1) (h : WRes b v w1 l bad bs e w') : WRes b v w l bad bs e w' := by
  obtain ⟨r, rfl, ⟨h1, h2, h3⟩ | ⟨h1, h0, h2, h3⟩ | ⟨h1, h0, h2, v2, h3, h4, h5⟩⟩ := h
  · exact ⟨r, rfl, .inl ⟨h1, h2, u.then h3⟩⟩
  · exact ⟨r, rfl, .inr (.inl ⟨h1, h0, h2, u.then h3⟩)⟩
  · refine ⟨r, rfl, .inr (.inr ⟨h1, h0, h2, v2, h3, ?_, fun k hk => ?_⟩)⟩
    · exact (u.mono (fun k _ hk => (noB k hk).elim)).trans h4 (fun _ _ h => h)
    · rcases h5 k hk with h | h
      · exact .inl h
      · have := u.size; exact .inr (by omega)

theorem blk_cell {w : World} {b : Nat} {c : Array Value} {t : TypeId} {fr : Nat × Nat} (h : w.heap[b]? = some (.cells c t fr)) (i : Nat) : w.cell? ⟨b, i, none⟩ = c[i]? := by
  unfold World.cell?
  rw [h]
  rfl
theorem flds1 (w : World) (x : Int) (n : Nat) (hx : (x, n).2 ≤ 1001 ∧ -9223372036854775808 ≤ (x, n).1 ∧ (x, n).1 ≤ 9223372036854775807) :
    Flds (w.alloc (.cells #[.int .i64 x, .int .i64 n] 113)) (.slice (some ⟨w.heap.size, 0, none⟩) 1 1) [⟨(x, n), hx⟩] := by
  have hb := heap_alloc_new w (.cells #[.int .i64 x, .int .i64 n] 113)
  refine ⟨w.heap.size, 1, rfl, ⟨_, _, hb⟩, ?_⟩
  intro j p hj
  match j with
  | 0 =>
    have : p = ⟨(x, n), hx⟩ := by simpa using hj.symm
    subst this
    exact ⟨blk_cell hb 0, blk_cell hb 1⟩
  | j + 1 => simp at hj
theorem flds2 (w : World) (x y : Int) (n m : Nat) (hx : (x, n).2 ≤ 1001 ∧ -9223372036854775808 ≤ (x, n).1 ∧ (x, n).1 ≤ 9223372036854775807) (hy : (y, m).2 ≤ 1001 ∧ -9223372036854775808 ≤ (y, m).1 ∧ (y, m).1 ≤ 9223372036854775807) :
    Flds (w.alloc (.cells #[.int .i64 x, .int .i64 n, .int .i64 y, .int .i64 m] 113)) (.slice (some ⟨w.heap.size, 0, none⟩) 2 2) [⟨(x, n), hx⟩, ⟨(y, m), hy⟩] := by
  have hb := heap_alloc_new w (.cells #[.int .i64 x, .int .i64 n, .int .i64 y, .int .i64 m] 113)
  refine ⟨w.heap.size, 2, rfl, ⟨_, _, hb⟩, ?_⟩
  intro j p hj
  match j with
  | 0 =>
    have : p = ⟨(x, n), hx⟩ := by simpa using hj.symm
    subst this
    exact ⟨blk_cell hb 0, blk_cell hb 1⟩
  | 1 =>
    have : p = ⟨(y, m), hy⟩ := by simpa using hj.symm
    subst this
    exact ⟨blk_cell hb 2, blk_cell hb 3⟩
  | j + 2 => simp at hj

def i64ok (x : Int) : Prop := -9223372036854775808 ≤ x ∧ x ≤ 9223372036854775807

set_option maxRecDepth 100000 in
set_option maxHeartbeats 1000000 in
theorem put_good (b : Nat) (l : List Nat) (v : Value) (x : Int) (n : Nat) (w : World) (h : WAt w b l v) (hl : l.length ≤ 1048576) (hn : n ≤ 32) (hx0 : 0 ≤ x) (hx1 : x < 2 ^ n) (bad : Prop) (hbad : ¬ bad) :
    Calls Try.prog 73 #[.pointer (some ⟨b, 0, none⟩), .int .i64 x, .int .i64 n] w fun e w' => WRes b v w l bad (numBits x n) e w' := by
  have hp : (2 : Int) ^ n ≤ 2 ^ 32 := by
    have := Nat.pow_le_pow_right (n := 2) (by decide) hn
    exact_mod_cast this
  have hp' : (2 : Int) ^ 32 = 4294967296 := by decide
  rw [hp'] at hp
  clear hp'
  have ha1 := h.upd (w' := w.alloc (.cells #[.int .i64 x, .int .i64 n] 113)) ((Upd.refl NoB _).alloc _) (fun k _ => noB k)
  have hs1 := flds1 w x n ⟨by show n ≤ 1001; omega, by show (-9223372036854775808 : Int) ≤ x; omega, by show x ≤ 9223372036854775807; omega⟩
  have H := Lib.hid h; clear h
  have Ha1 := Lib.hid ha1; clear ha1
  have Hs1 := Lib.hid hs1; clear hs1
  go_enter Try.func73, Try.ntmps73
  go_wp2_with (go_at_call 95; refine (write_res b l v _ _ _ Ha1.out hl Hs1.out (by simp) bad hbad (numBits x n) (by simp [fldBits])).mono ?_; rintro e w2 ⟨r, rfl, hr⟩)
  go_ret
  exact WRes.after ((Upd.refl NoB _).alloc _) ⟨r, rfl, hr⟩

def putBad (x n : Int) : Prop := ¬ (0 ≤ n ∧ n ≤ 32 ∧ 0 ≤ x ∧ x < 2 ^ n.toNat)
theorem put_any (b : Nat) (l : List Nat) (v : Value) (x n : Int) (w : World) (h : WAt w b l v) (hl : l.length ≤ 1048576) :
    Calls Try.prog 73 #[.pointer (some ⟨b, 0, none⟩), .int .i64 x, .int .i64 n] w fun e w' => WRes b v w l (putBad x n) (numBits x n.toNat) e w' := by
  by_cases h1 : n < 0
  · have hb : putBad x n := fun hh => by omega
    have Hb := Lib.hid hb; clear hb h
    go_enter Try.func73, Try.ntmps73
    go_wp2
    go_ret
    exact WRes.bad Hb.out
  by_cases h2 : 32 < n
  · have hb : putBad x n := fun hh => by omega
    have Hb := Lib.hid hb; clear hb h
    go_enter Try.func73, Try.ntmps73
    go_wp2
    go_ret
    exact WRes.bad Hb.out
  by_cases h3 : x < 0
  · have hb : putBad x n := fun hh => by omega
    have Hb := Lib.hid hb; clear hb h
    go_enter Try.func73, Try.ntmps73
    go_wp2
    go_ret
    exact WRes.bad Hb.out
  obtain ⟨m, rfl⟩ := Int.eq_ofNat_of_zero_le (show 0 ≤ n by omega)
  by_cases h4 : x < 2 ^ m
  · exact put_good b l v x m w h hl (by omega) (by omega) h4 _ (fun hh => hh ⟨by omega, by omega, by omega, h4⟩)
  · have hb : putBad x m := fun hh => h4 hh.2.2.2
    have h4' : (2 : Int) ^ m ≤ x := by omega
    have hp : (2 : Int) ^ m ≤ 2 ^ 32 := by
      have := Nat.pow_le_pow_right (n := 2) (by decide) (show m ≤ 32 by omega)
      exact_mod_cast this
    have hp' : (2 : Int) ^ 32 = 4294967296 := by decide
    rw [hp'] at hp
    have h0 : (0 : Int) ≤ 2 ^ m := Int.le_of_lt (Int.pow_pos (by decide))
    have Hb := Lib.hid hb; clear hb
    clear hp' h h4
    go_enter Try.func73, Try.ntmps73
    go_wp2
    go_ret
    exact WRes.bad Hb.out
end Go.Proofs.Ytmdladcfckoglaa

namespace Go.Proofs.Ytmdladcfckoglaa
open Go.RowKit Go.Shelf

theorem pow2_le {m k : Nat} (h : m ≤ k) : (2 : Int) ^ m ≤ 2 ^ k := by
  have := Nat.pow_le_pow_right (n := 2) (by decide) h
  exact_mod_cast this
theorem pow2_pos (m : Nat) : (0 : Int) < 2 ^ m := Int.pow_pos (by decide)

theorem new_any (w : World) : Calls Try.prog 23 #[] w fun e w' => e = .returned (.pointer (some ⟨w.heap.size, 0, none⟩)) ∧ w' = w.alloc (.cells #[.slice none 0 0, .int .i64 0] 79) := by
  go_enter Try.func23, Try.ntmps23
  go_wp2
  go_ret
  exact ⟨rfl, rfl⟩
theorem WAt_new (w : World) : WAt (w.alloc (.cells #[.slice none 0 0, .int .i64 0] 79)) w.heap.size [] (.slice none 0 0) :=
  ⟨heap_alloc_new w _, World.ownsRow_nil _ _ _ _, bit01_nil⟩

def unaryBad (n : Int) : Prop := ¬ (0 ≤ n ∧ n ≤ 1000)
set_option maxRecDepth 100000 in
set_option maxHeartbeats 1000000 in
theorem unary_any (b : Nat) (l : List Nat) (v : Value) (n : Int) (w : World) (h : WAt w b l v) (hl : l.length ≤ 1048576) :
    Calls Try.prog 72 #[.pointer (some ⟨b, 0, none⟩), .int .i64 n] w fun e w' => WRes b v w l (unaryBad n) (numBits 0 n.toNat ++ numBits 1 1) e w' := by
  by_cases h1 : n < 0
  · have hb : unaryBad n := fun hh => by omega
    have Hb := Lib.hid hb; clear hb h
    go_enter Try.func72, Try.ntmps72
    go_wp2
    go_ret
    exact WRes.bad Hb.out
  by_cases h2 : 1000 < n
  · have hb : unaryBad n := fun hh => by omega
    have Hb := Lib.hid hb; clear hb h
    go_enter Try.func72, Try.ntmps72
    go_wp2
    go_ret
    exact WRes.bad Hb.out
  obtain ⟨m, rfl⟩ := Int.eq_ofNat_of_zero_le (show 0 ≤ n by omega)
  have hm : m ≤ 1000 := by omega
  have hb : ¬ unaryBad (m : Int) := fun hh => hh ⟨by omega, by omega⟩
  have Hb := Lib.hid hb; clear hb
  have ha1 := h.upd (w' := w.alloc (.cells #[.int .i64 0, .int .i64 m, .int .i64 1, .int .i64 (1 : Nat)] 113)) ((Upd.refl NoB _).alloc _) (fun k _ => noB k)
  have hs1 := flds2 w 0 1 m 1 ⟨by show m ≤ 1001; omega, by show (-9223372036854775808 : Int) ≤ 0; decide, by show (0 : Int) ≤ 9223372036854775807; decide⟩ (by decide)
  have Ha1 := Lib.hid ha1; clear ha1 h
  have Hs1 := Lib.hid hs1; clear hs1
  go_enter Try.func72, Try.ntmps72
  go_wp2_with (go_at_call 95; refine (write_res b l v _ _ _ Ha1.out hl Hs1.out (by simp) _ Hb.out (numBits 0 m ++ numBits 1 1) (by simp [fldBits])).mono ?_; rintro e w2 ⟨r, rfl, hr⟩)
  go_ret
  exact WRes.after ((Upd.refl NoB _).alloc _) ⟨r, rfl, hr⟩

def signedBad (x n : Int) : Prop := ¬ (1 ≤ n ∧ n ≤ 32 ∧ -2 ^ (n.toNat - 1) ≤ x ∧ x < 2 ^ (n.toNat - 1))
def gammaBad (n : Int) : Prop := ¬ (1 ≤ n ∧ n < 2097152)
theorem log2_up {x k : Nat} (h1 : 2 ^ k ≤ x) (h2 : x < 2 ^ (k + 1)) : Nat.log2 x = k := by
  have hx : x ≠ 0 := by have := Nat.two_pow_pos k; omega
  exact (Nat.log2_eq_iff hx).2 ⟨h1, h2⟩
end Go.Proofs.Ytmdladcfckoglaa

namespace Go.Proofs.Ytmdladcfckoglaa
open Go.RowKit Go.Shelf

theorem Bytes.lt {w : World} {sv : Value} {zs : List Nat} (h : Bytes w sv zs) (hz : zs ≠ []) : ∀ k, sv.ownBlock = some k → ∃ c t fr, w.heap[k]? = some (.cells c t fr) := by
  obtain ⟨_, a, cap, rfl, _, h2⟩ := h
  rcases h2 with h2 | ⟨b, off, rfl, h2⟩
  · exact absurd h2 hz
  · intro k hk
    have : b = k := by simpa [Value.ownBlock] using hk
    subst this
    have h0 := h2 0 (List.length_pos_iff.2 hz)
    unfold World.cell? at h0
    generalize w.heap[b]? = o at h0 ⊢
    match o with
    | some (.cells c t fr) => exact ⟨c, t, fr, rfl⟩
    | none => cases h0
    | some (.pending ..) => cases h0
    | some (.view ..) => cases h0
    | some (.number ..) => cases h0
    | some (.map ..) => cases h0
    | some (.chan ..) => cases h0
    | some (.stringIter ..) => cases h0
    | some (.mapIter ..) => cases h0
    | some (.loop ..) => cases h0
    | some (.deferred ..) => cases h0
    | some (.coro ..) => cases h0
    | some (.finalizers ..) => cases h0

theorem newOr.not {w : World} {v v' : Value} (h : newOr w v v') {b k : Nat} (hk : k < w.heap.size) (hn : ¬ wfoot b v k) : ¬ wfoot b v' k := by
  rintro (rfl | hv)
  · exact hn (.inl rfl)
  · rcases h k hv with h | h
    · exact hn (.inr h)
    · omega
set_option maxRecDepth 100000 in
set_option maxHeartbeats 1000000 in
/-- feed(between(b, s, s + n), w.add) -/
theorem feeda (b : Nat) (l : List Nat) (v sv : Value) (zs : List Nat) (s n : Nat) (w : World) (h : WAt w b l v) (hl : l.length ≤ 1048576) (hs : Bytes w sv zs) (hsn : s + n ≤ 8 * zs.length) (hn : n ≤ 1048576) (hreach : zs.length ≤ 140737488355328)
    (hsep : zs ≠ [] → ∀ k, sv.ownBlock = some k → ¬ wfoot b v k) (B : Nat) (h0 : w.heap[B]? = some (.cells #[sv] 32 (0, 0))) (h1 : w.heap[B + 1]? = some (.cells #[.int .i64 s] 3 (0, 0))) (h2 : w.heap[B + 2]? = some (.cells #[.int .i64 (s + n : Nat)] 3 (0, 0))) :
    Calls Try.prog 63 #[.func (.func 94) #[] (betweenLb B), .func (.func 65) #[.pointer (some ⟨b, 0, none⟩)] #[]] w fun e w' =>
      e = .returned (.tuple #[]) ∧ WPost b v w (l ++ bitsOf zs s n) w' := by
  have hD : ∀ k, betweenD B sv zs k → k < w.heap.size := by
    rintro k (rfl | rfl | rfl | ⟨hz, hk⟩)
    · exact lt_of_block h0
    · exact lt_of_block h1
    · exact lt_of_block h2
    · obtain ⟨c, t, fr, hc⟩ := hs.lt hz k hk
      exact lt_of_block hc
  refine (feed_in (first := #[.pointer (some ⟨b, 0, none⟩)]) (cap := #[]) (Sp := fun pre => pre.map Subtype.val <+: bitsOf zs s n) (N := n) w (enters_of Try.func94 (by kernel_rfl) rfl) (enters_of Try.func65 (by kernel_rfl) rfl)
    (between_seq B sv zs s n w hsn hreach (cell_of_one h1) (cell_of_one h2) (cell_of_one h0) hs hD) (fun h k => h.trans k) ?_
    (fun pre W => (∃ v', WAt W b (l ++ pre.map Subtype.val) v' ∧ Upd (wfoot b v) w W ∧ newOr w v v' ∧ pre.length ≤ n)) ?_ ?_ ?_).mono ?_
  · intro W k o' hk
    exact keepD_putObj (fun hd => by have := hD _ hd; omega)
  · rintro s' W W' row ⟨v', ha, hu, hn', hlen⟩ hgr hr
    exact ⟨v', ha.grown hgr (fun r e => (hr r e).2), hu.grown hgr (fun k e hk => by have := (hr k e).1; omega), hn', hlen⟩
  · exact ⟨v, by simpa using h, Upd.refl _ _, newOr.refl _ _, by simp⟩
  · rintro pre x W ⟨v', ha, hu, hn', hlen⟩ hN hbox
    refine (add_any b (l ++ pre.map Subtype.val) v' x.1 W ha (by simp; omega) x.2).mono ?_
    rintro e W' ⟨rfl, v2, ha2, hu2, hn2⟩
    have k3 := hu2.heap hbox (ha.not hbox (by decide) (by decide))
    refine ⟨⟨_, rfl⟩, ⟨v2, ?_, ?_, hn'.trans hn2 hu.size, by simp; omega⟩, ?_, notcells_grown hu2 ha.cells _, ?_⟩
    · rw [List.map_append, ← List.append_assoc]; exact ha2
    · refine hu.trans hu2 ?_
      rintro i hi (rfl | hi')
      · exact .inl rfl
      · rcases hn' i hi' with h | h
        · exact .inr h
        · omega
    · intro k hk
      have hlt := hD k hk
      refine hu2.block k (Nat.lt_of_lt_of_le hlt hu.size) (hn'.not hlt ?_)
      rcases hk with rfl | rfl | rfl | ⟨hz, hk⟩
      · exact h.not h0 (by decide) (by decide)
      · exact h.not h1 (by decide) (by decide)
      · exact h.not h2 (by decide) (by decide)
      · exact hsep hz k hk
    · rintro k rfl
      exact k3.trans hbox.symm
  · rintro e W' ⟨rfl, ys, hys, v', ha, hu, hn', _⟩
    exact ⟨rfl, v', by rw [← hys]; exact ha, hu, hn'⟩

def alignBad (x : Int) : Prop := ¬ (0 ≤ x ∧ x ≤ 1)
theorem put_nil (x n : Int) (w : World) : Calls Try.prog 73 #[.pointer none, .int .i64 x, .int .i64 n] w fun e w' => e = .returned (.int .i64 1) ∧ w = w' := by
  go_enter Try.func73, Try.ntmps73
  go_wp2
  go_ret
  exact ⟨rfl, rfl⟩
theorem unary_nil (x : Int) (w : World) : Calls Try.prog 72 #[.pointer none, .int .i64 x] w fun e w' => e = .returned (.int .i64 1) ∧ w = w' := by
  go_enter Try.func72, Try.ntmps72
  go_wp2
  go_ret
  exact ⟨rfl, rfl⟩
theorem append_nil (a : Option Addr) (len cap : Nat) (x : Int) (w : World) : Calls Try.prog 24 #[.pointer none, .slice a len cap, .int .i64 x] w fun e w' => e = .returned (.int .i64 1) ∧ w = w' := by
  go_enter Try.func24, Try.ntmps24
  go_wp2
  go_ret
  exact ⟨rfl, rfl⟩

def appendBad (zs : List Nat) (n : Int) : Prop := ¬ (0 ≤ n ∧ n ≤ 8 * zs.length)
set_option maxRecDepth 100000 in
set_option maxHeartbeats 1000000 in
theorem append_any (b : Nat) (l : List Nat) (v sv : Value) (zs : List Nat) (n : Int) (w : World) (h : WAt w b l v) (hl : l.length ≤ 1048576) (hs : Bytes w sv zs) (hreach : zs.length ≤ 140737488355328)
    (hsep : zs ≠ [] → ∀ k, sv.ownBlock = some k → ¬ wfoot b v k) :
    Calls Try.prog 24 #[.pointer (some ⟨b, 0, none⟩), sv, .int .i64 n] w fun e w' => WRes b v w l (appendBad zs n) (bitsOf zs 0 n.toNat) e w' := by
  have hsv : ∃ a cap, sv = .slice a zs.length cap := by obtain ⟨_, a, cap, rfl, _⟩ := hs; exact ⟨a, cap, rfl⟩
  have hbl : (bitsOf zs 0 n.toNat).length = n.toNat := by simp [bitsOf]
  have hc := h.len
  obtain ⟨a, cap, rfl⟩ := hsv
  by_cases h1 : n < 0
  · have hb : appendBad zs n := fun hh => by omega
    have Hb := Lib.hid hb; clear hb h hs
    go_enter Try.func24, Try.ntmps24
    go_wp2
    go_ret
    exact WRes.bad Hb.out
  by_cases h2 : 8 * (zs.length : Int) < n
  · have hb : appendBad zs n := fun hh => by omega
    have Hb := Lib.hid hb; clear hb h hs
    go_enter Try.func24, Try.ntmps24
    go_wp2
    go_ret
    exact WRes.bad Hb.out
  have hb : ¬ appendBad zs n := fun hh => hh ⟨by omega, by omega⟩
  have Hb := Lib.hid hb; clear hb
  obtain ⟨m, rfl⟩ := Int.eq_ofNat_of_zero_le (show 0 ≤ n by omega)
  rw [Int.toNat_natCast] at hbl ⊢
  have Hbl := Lib.hid hbl; clear hbl
  by_cases h3 : 1048576 - (l.length : Int) < m
  · clear h hs
    go_enter Try.func24, Try.ntmps24
    go_wp2_with (go_at_call 62; refine (room_any b l.length _ hc (by omega)).mono ?_; rintro e w2 ⟨rfl, rfl⟩)
    go_ret
    exact ⟨2, rfl, .inr (.inl ⟨Hb.out, by rw [Hbl.out]; omega, rfl, Upd.refl _ _⟩)⟩
  · have hu : Upd NoB w (((w.alloc (.cells #[.slice a zs.length cap] 32)).alloc (.cells #[.int .i64 (0 : Nat)] 3)).alloc (.cells #[.int .i64 (0 + m : Nat)] 3)) := (((Upd.refl _ _).alloc _).alloc _).alloc _
    have ha1 := h.upd hu (fun k _ => noB k)
    have hs1 := hs.keep (D := fun k => zs ≠ [] ∧ (Value.slice a zs.length cap).ownBlock = some k) (hu.keepD (fun k hk => ⟨by obtain ⟨c, t, fr, hc⟩ := hs.lt hk.1 k hk.2; exact lt_of_block hc, noB k⟩)) (fun hz b hb => ⟨hz, hb⟩)
    have b0 : (((w.alloc (.cells #[.slice a zs.length cap] 32)).alloc (.cells #[.int .i64 (0 : Nat)] 3)).alloc (.cells #[.int .i64 (0 + m : Nat)] 3)).heap[w.heap.size]? = some (.cells #[.slice a zs.length cap] 32 (0, 0)) :=
      (Below.heap_alloc _ _ _ (by simp; omega)).trans ((Below.heap_alloc _ _ _ (by simp)).trans (heap_alloc_new w _))
    have b1 : (((w.alloc (.cells #[.slice a zs.length cap] 32)).alloc (.cells #[.int .i64 (0 : Nat)] 3)).alloc (.cells #[.int .i64 (0 + m : Nat)] 3)).heap[w.heap.size + 1]? = some (.cells #[.int .i64 (0 : Nat)] 3 (0, 0)) := by
      have := heap_alloc_new (w.alloc (.cells #[.slice a zs.length cap] 32)) (.cells #[.int .i64 (0 : Nat)] 3)
      rw [World.size_alloc] at this
      exact (Below.heap_alloc _ _ _ (by simp)).trans this
    have b2 : (((w.alloc (.cells #[.slice a zs.length cap] 32)).alloc (.cells #[.int .i64 (0 : Nat)] 3)).alloc (.cells #[.int .i64 (0 + m : Nat)] 3)).heap[w.heap.size + 2]? = some (.cells #[.int .i64 (0 + m : Nat)] 3 (0, 0)) := by
      have := heap_alloc_new ((w.alloc (.cells #[.slice a zs.length cap] 32)).alloc (.cells #[.int .i64 (0 : Nat)] 3)) (.cells #[.int .i64 (0 + m : Nat)] 3)
      rwa [World.size_alloc, World.size_alloc] at this
    have fa := feeda b l v _ zs 0 m _ ha1 hl hs1 (by omega) (by omega) hreach hsep w.heap.size b0 b1 b2
    simp only [Nat.zero_add, betweenLb] at fa
    have Hfa := Lib.hid fa; clear fa
    clear b0 b1 b2 ha1 hs1 h hs
    have Hu := Lib.hid hu; clear hu
    have Hsep := Lib.hid hsep; clear hsep
    go_enter Try.func24, Try.ntmps24
    go_wp2_with (first | (go_at_call 62; refine (room_any b l.length _ hc (by omega)).mono ?_; rintro e w2 ⟨rfl, rfl⟩) | (go_at_call 64; refine (between_in _ _ _ _ _ _).mono ?_; rintro e w2 ⟨rfl, rfl⟩) | (go_at_call 63; refine Hfa.out.mono ?_; rintro e w3 ⟨rfl, hp⟩))
    go_ret
    refine WRes.after Hu.out ⟨0, rfl, .inr (.inr ⟨Hb.out, by rw [Hbl.out]; omega, rfl, ?_⟩)⟩
    simpa using hp
end Go.Proofs.Ytmdladcfckoglaa
