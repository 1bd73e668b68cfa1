/- the writer's calls -/
import Derived.Test.YtjnbnhnkjhnbkaaWrite
namespace Go.Proofs.Ytjnbnhnkjhnbkaa
open Go.RowKit Go.Shelf

/-- What a call of a writer comes to: ErrArg, ErrFull, or the bits bs are added. -/
def WRes (b : Nat) (v : Value) (w : World) (l : List Nat) (bad : Prop) (bs : List Nat) (e : Ending) (w' : World) : Prop :=
  ∃ r : Int, e = .returned (.int .i64 r) ∧ ((bad ∧ r = 1 ∧ Upd NoB w w') ∨ (¬ bad ∧ 1048576 < l.length + bs.length ∧ r = 2 ∧ Upd NoB w w') ∨ (¬ bad ∧ l.length + bs.length ≤ 1048576 ∧ r = 0 ∧ WPost b v w (l ++ bs) w'))
theorem WRes.bad {b : Nat} {v : Value} {w : World} {l : List Nat} {bad : Prop} {bs : List Nat} (h : bad) : WRes b v w l bad bs (.returned (.int .i64 1)) w := ⟨1, rfl, .inl ⟨h, rfl, Upd.refl _ _⟩⟩

/-- write, as a call of a writer. -/
theorem write_res (b : Nat) (l : List Nat) (v sv : Value) (fs : List Fld) (w : World) (h : WAt w b l v) (hl : l.length ≤ 1048576) (hs : Flds w sv fs) (hf : fs.length ≤ 1000) (bad : Prop) (hbad : ¬ bad) (bs : List Nat) (hbs : bs = fldBits fs) :
    Calls Try.prog 95 #[.pointer (some ⟨b, 0, none⟩), sv] w fun e w' => WRes b v w l bad bs e w' := by
  subst hbs
  by_cases hfit : l.length + fldSum fs ≤ 1048576
  · refine (write_ok b l v sv fs w h (by omega) hs hf hfit).mono ?_
    rintro e w' ⟨rfl, hp⟩
    exact ⟨0, rfl, .inr (.inr ⟨hbad, by rw [fldBits_length]; exact hfit, rfl, hp⟩)⟩
  · refine (write_full b l v sv fs w h (by omega) hs hf (by omega)).mono ?_
    rintro e w' ⟨rfl, hp⟩
    exact ⟨2, rfl, .inr (.inl ⟨hbad, by rw [fldBits_length]; omega, rfl, hp⟩)⟩
/-- Behind blocks of the call's own. -/
theorem WRes.after {b : Nat} {v : Value} {w w1 : World} {l : List Nat} {bad : Prop} {bs : List Nat} {e : Ending} {w' : World} (u : Upd NoB w w1) (h : WRes b v w1 l bad bs e w') : WRes b v w l bad bs e w' := by
  obtain ⟨r, rfl, ⟨h1, h2, h3⟩ | ⟨h1, h0, h2, h3⟩ | ⟨h1, h0, h2, v2, h3, h4, h5⟩⟩ := h
  · exact ⟨r, rfl, .inl ⟨h1, h2, u.then h3⟩⟩
  · exact ⟨r, rfl, .inr (.inl ⟨h1, h0, h2, u.then h3⟩)⟩
  · refine ⟨r, rfl, .inr (.inr ⟨h1, h0, h2, v2, h3, ?_, fun k hk => ?_⟩)⟩
    · exact (u.mono (fun k _ hk => (noB k hk).elim)).trans h4 (fun _ _ h => h)
    · rcases h5 k hk with h | h
      · exact .inl h
      · have := u.size; exact .inr (by omega)

theorem blk_cell {w : World} {b : Nat} {c : Array Value} {t : TypeId} {fr : Nat × Nat} (h : w.heap[b]? = some (.cells c t fr)) (i : Nat) : w.cell? ⟨b, i, none⟩ = c[i]? := by
  unfold World.cell?
  rw [h]
  rfl
theorem flds1 (w : World) (x : Int) (n : Nat) (hx : (x, n).2 ≤ 1001 ∧ -9223372036854775808 ≤ (x, n).1 ∧ (x, n).1 ≤ 9223372036854775807) :
    Flds (w.alloc (.cells #[.int .i64 x, .int .i64 n] 113)) (.slice (some ⟨w.heap.size, 0, none⟩) 1 1) [⟨(x, n), hx⟩] := by
  have hb := heap_alloc_new w (.cells #[.int .i64 x, .int .i64 n] 113)
  refine ⟨w.heap.size, 1, rfl, ⟨_, _, hb⟩, ?_⟩
  intro j p hj
  match j with
  | 0 =>
    have : p = ⟨(x, n), hx⟩ := by simpa using hj.symm
    subst this
    exact ⟨blk_cell hb 0, blk_cell hb 1⟩
  | j + 1 => simp at hj
theorem flds2 (w : World) (x y : Int) (n m : Nat) (hx : (x, n).2 ≤ 1001 ∧ -9223372036854775808 ≤ (x, n).1 ∧ (x, n).1 ≤ 9223372036854775807) (hy : (y, m).2 ≤ 1001 ∧ -9223372036854775808 ≤ (y, m).1 ∧ (y, m).1 ≤ 9223372036854775807) :
    Flds (w.alloc (.cells #[.int .i64 x, .int .i64 n, .int .i64 y, .int .i64 m] 113)) (.slice (some ⟨w.heap.size, 0, none⟩) 2 2) [⟨(x, n), hx⟩, ⟨(y, m), hy⟩] := by
  have hb := heap_alloc_new w (.cells #[.int .i64 x, .int .i64 n, .int .i64 y, .int .i64 m] 113)
  refine ⟨w.heap.size, 2, rfl, ⟨_, _, hb⟩, ?_⟩
  intro j p hj
  match j with
  | 0 =>
    have : p = ⟨(x, n), hx⟩ := by simpa using hj.symm
    subst this
    exact ⟨blk_cell hb 0, blk_cell hb 1⟩
  | 1 =>
    have : p = ⟨(y, m), hy⟩ := by simpa using hj.symm
    subst this
    exact ⟨blk_cell hb 2, blk_cell hb 3⟩
  | j + 2 => simp at hj

def i64ok (x : Int) : Prop := -9223372036854775808 ≤ x ∧ x ≤ 9223372036854775807

set_option maxRecDepth 100000 in
set_option maxHeartbeats 1000000 in
theorem put_good (b : Nat) (l : List Nat) (v : Value) (x : Int) (n : Nat) (w : World) (h : WAt w b l v) (hl : l.length ≤ 1048576) (hn : n ≤ 32) (hx0 : 0 ≤ x) (hx1 : x < 2 ^ n) (bad : Prop) (hbad : ¬ bad) :
    Calls Try.prog 73 #[.pointer (some ⟨b, 0, none⟩), .int .i64 x, .int .i64 n] w fun e w' => WRes b v w l bad (numBits x n) e w' := by
  have hp : (2 : Int) ^ n ≤ 2 ^ 32 := by
    have := Nat.pow_le_pow_right (n := 2) (by decide) hn
    exact_mod_cast this
  have hp' : (2 : Int) ^ 32 = 4294967296 := by decide
  rw [hp'] at hp
  clear hp'
  have ha1 := h.upd (w' := w.alloc (.cells #[.int .i64 x, .int .i64 n] 113)) ((Upd.refl NoB _).alloc _) (fun k _ => noB k)
  have hs1 := flds1 w x n ⟨by show n ≤ 1001; omega, by show (-9223372036854775808 : Int) ≤ x; omega, by show x ≤ 9223372036854775807; omega⟩
  have H := Lib.hid h; clear h
  have Ha1 := Lib.hid ha1; clear ha1
  have Hs1 := Lib.hid hs1; clear hs1
  go_enter Try.func73, Try.ntmps73
  go_wp2_with (go_at_call 95; refine (write_res b l v _ _ _ Ha1.out hl Hs1.out (by simp) bad hbad (numBits x n) (by simp [fldBits])).mono ?_; rintro e w2 ⟨r, rfl, hr⟩)
  go_ret
  exact WRes.after ((Upd.refl NoB _).alloc _) ⟨r, rfl, hr⟩

def putBad (x n : Int) : Prop := ¬ (0 ≤ n ∧ n ≤ 32 ∧ 0 ≤ x ∧ x < 2 ^ n.toNat)
theorem put_any (b : Nat) (l : List Nat) (v : Value) (x n : Int) (w : World) (h : WAt w b l v) (hl : l.length ≤ 1048576) :
    Calls Try.prog 73 #[.pointer (some ⟨b, 0, none⟩), .int .i64 x, .int .i64 n] w fun e w' => WRes b v w l (putBad x n) (numBits x n.toNat) e w' := by
  by_cases h1 : n < 0
  · have hb : putBad x n := fun hh => by omega
    have Hb := Lib.hid hb; clear hb h
    go_enter Try.func73, Try.ntmps73
    go_wp2
    go_ret
    exact WRes.bad Hb.out
  by_cases h2 : 32 < n
  · have hb : putBad x n := fun hh => by omega
    have Hb := Lib.hid hb; clear hb h
    go_enter Try.func73, Try.ntmps73
    go_wp2
    go_ret
    exact WRes.bad Hb.out
  by_cases h3 : x < 0
  · have hb : putBad x n := fun hh => by omega
    have Hb := Lib.hid hb; clear hb h
    go_enter Try.func73, Try.ntmps73
    go_wp2
    go_ret
    exact WRes.bad Hb.out
  obtain ⟨m, rfl⟩ := Int.eq_ofNat_of_zero_le (show 0 ≤ n by omega)
  by_cases h4 : x < 2 ^ m
  · exact put_good b l v x m w h hl (by omega) (by omega) h4 _ (fun hh => hh ⟨by omega, by omega, by omega, h4⟩)
  · have hb : putBad x m := fun hh => h4 hh.2.2.2
    have h4' : (2 : Int) ^ m ≤ x := by omega
    have hp : (2 : Int) ^ m ≤ 2 ^ 32 := by
      have := Nat.pow_le_pow_right (n := 2) (by decide) (show m ≤ 32 by omega)
      exact_mod_cast this
    have hp' : (2 : Int) ^ 32 = 4294967296 := by decide
    rw [hp'] at hp
    have h0 : (0 : Int) ≤ 2 ^ m := Int.le_of_lt (Int.pow_pos (by decide))
    have Hb := Lib.hid hb; clear hb
    clear hp' h h4
    go_enter Try.func73, Try.ntmps73
    go_wp2
    go_ret
    exact WRes.bad Hb.out
end Go.Proofs.Ytjnbnhnkjhnbkaa
