/- the check sums -/
import Derived.Test.YtdjaileeklhkmaaOpen
namespace Go.Proofs.Ytdjaileeklhkmaa
open Go.RowKit Go.Shelf

def c16 (r x : Nat) : Nat := if r / 32768 = x then 2 * r % 65536 else (2 * r % 65536) ^^^ 32773
def c32 (r x : Nat) : Nat := if r % 2 = x then r / 2 else (r / 2) ^^^ 3988292384
theorem c16_lt (r x : Nat) : c16 r x < 65536 := by
  unfold c16
  split
  · omega
  · exact Nat.xor_lt_two_pow (n := 16) (by omega) (by omega)
theorem c32_lt {r : Nat} (h : r < 4294967296) (x : Nat) : c32 r x < 4294967296 := by
  unfold c32
  split
  · omega
  · exact Nat.xor_lt_two_pow (n := 32) (by omega) (by omega)
theorem upd_two (w : World) (B : Nat) (u v : Value) : Upd (fun k => k = B) w ((w.setCell ⟨B, 0, none⟩ u).setCell ⟨B, 0, none⟩ v) := by
  have h1 : Upd (fun k => k = B) w (w.setCell ⟨B, 0, none⟩ u) := (Upd.refl _ _).setCell _ (fun _ => rfl)
  exact h1.setCell _ (fun _ => rfl)
theorem fold16_lt : ∀ (l : List Nat) (r : Nat), r < 65536 → l.foldl c16 r < 65536
  | [], r, h => h
  | x :: l, r, _ => fold16_lt l _ (c16_lt r x)
theorem fold32_lt : ∀ (l : List Nat) (r : Nat), r < 4294967296 → l.foldl c32 r < 4294967296
  | [], r, h => h
  | x :: l, r, h => fold32_lt l _ (c32_lt h x)

set_option maxRecDepth 100000 in
set_option maxHeartbeats 1000000 in
theorem step16_any (B r x : Nat) (w : World) (hr : r < 65536) (hx : x ≤ 1) (hb : w.heap[B]? = some (.cells #[.int .u16 r] 75 (0, 0))) :
    Calls Try.prog 65 #[.int .i64 x, .pointer (some ⟨B, 0, none⟩)] w fun e w' => e = .returned (.tuple #[]) ∧ w'.heap[B]? = some (.cells #[.int .u16 (c16 r x : Nat)] 75 (0, 0)) ∧ Upd (fun k => k = B) w w' := by
  have h0 := cell_of_one hb
  have f0 := free_of_one hb
  have s1 : ∀ w, (Op.shift .shr .u16 (r : Int) .u64 15).run Try.prog w = .ok (.int .u16 (r / 32768 : Nat)) w := fun w => by
    rw [run_shr _ _ _ _ _ (by omega) (by show (15 : Int) ≤ 16; omega)]; rfl
  have Hb := Lib.hid hb; clear hb
  by_cases h : r / 32768 = x
  · have hc : c16 r x = 2 * r % 65536 := if_pos h
    have h' : (((r / 32768 : Nat) : Int) != (x : Int)) = false := by simp; omega
    have Hc := Lib.hid hc; clear hc h
    go_enter Try.func65, Try.ntmps65
    go_wp2
    go_end0
    rw [Hc.out]
    refine ⟨rfl, ?_, (Upd.refl _ _).setCell _ (fun _ => rfl)⟩
    have e : IntKind.u16.wrap ((r : Int) * 2) = ((2 * r % 65536 : Nat) : Int) := by rw [IntKind.wrap_u16]; omega
    rw [e]
    exact one_setCell Hb.out
  · have hc : c16 r x = (2 * r % 65536) ^^^ 32773 := if_neg h
    have h' : (((r / 32768 : Nat) : Int) != (x : Int)) = true := by simp; omega
    have Hc := Lib.hid hc; clear hc h
    go_enter Try.func65, Try.ntmps65
    go_wp2
    go_end0
    rw [Hc.out]
    have e : IntKind.u16.wrap ((r : Int) * 2) = ((2 * r % 65536 : Nat) : Int) := by rw [IntKind.wrap_u16]; omega
    have e2 : Go.bits .xor .u16 ((2 * r % 65536 : Nat) : Int) 32773 = ((2 * r % 65536 ^^^ 32773 : Nat) : Int) := u16_xor_nat (2 * r % 65536) 32773 (by omega) (by omega)
    rw [e, e2]
    exact ⟨rfl, one_setCell (one_setCell Hb.out), upd_two _ _ _ _⟩

theorem u32_and1 {r : Nat} (hr : r < 4294967296) : Go.bits .and .u32 (r : Int) 1 = ((r % 2 : Nat) : Int) := by
  have := u32_and_nat r 1 (by omega) (by omega)
  rw [Nat.and_one_is_mod] at this
  exact this
set_option maxRecDepth 100000 in
set_option maxHeartbeats 1000000 in
theorem step32_any (B r x : Nat) (w : World) (hr : r < 4294967296) (hx : x ≤ 1) (hb : w.heap[B]? = some (.cells #[.int .u32 r] 66 (0, 0))) :
    Calls Try.prog 68 #[.int .i64 x, .pointer (some ⟨B, 0, none⟩)] w fun e w' => e = .returned (.tuple #[]) ∧ w'.heap[B]? = some (.cells #[.int .u32 (c32 r x : Nat)] 66 (0, 0)) ∧ Upd (fun k => k = B) w w' := by
  have h0 := cell_of_one hb
  have f0 := free_of_one hb
  have s1 : ∀ w, (Op.shift .shr .u32 (r : Int) .u64 1).run Try.prog w = .ok (.int .u32 (r / 2 : Nat)) w := fun w => by
    rw [run_shr _ _ _ _ _ (by omega) (by show (1 : Int) ≤ 32; omega)]; rfl
  have s2 := u32_and1 hr
  have Hb := Lib.hid hb; clear hb
  by_cases h : r % 2 = x
  · have hc : c32 r x = r / 2 := if_pos h
    have h' : (((r % 2 : Nat) : Int) != (x : Int)) = false := by simp; omega
    have Hc := Lib.hid hc; clear hc h
    go_enter Try.func68, Try.ntmps68
    go_wp2
    go_end0
    rw [Hc.out]
    refine ⟨rfl, ?_, (Upd.refl _ _).setCell _ (fun _ => rfl)⟩
    have := one_setCell (u := .int .u32 ((r / 2 : Nat) : Int)) Hb.out
    simpa using this
  · have hc : c32 r x = (r / 2) ^^^ 3988292384 := if_neg h
    have h' : (((r % 2 : Nat) : Int) != (x : Int)) = true := by simp; omega
    have Hc := Lib.hid hc; clear hc h
    go_enter Try.func68, Try.ntmps68
    go_wp2
    go_end0
    rw [Hc.out]
    have e2 : Go.bits .xor .u32 ((r : Int) / 2) 3988292384 = ((r / 2 ^^^ 3988292384 : Nat) : Int) := u32_xor_nat (r / 2) 3988292384 (by omega) (by omega)
    rw [e2]
    exact ⟨rfl, one_setCell (one_setCell Hb.out), upd_two _ _ _ _⟩

set_option maxRecDepth 100000 in
set_option maxHeartbeats 1000000 in
theorem crc16_any (sv : Value) (zs : List Nat) (w : World) (h : Bytes w sv zs) (hl : zs.length ≤ 1099511627776) :
    Calls Try.prog 30 #[sv] w fun e w' => e = .returned (.int .i64 ((bitsOf zs 0 (8 * zs.length)).foldl c16 65535 : Nat)) ∧ Upd NoB w w' := by
  obtain ⟨a, cap, rfl⟩ : ∃ a cap, sv = .slice a zs.length cap := by obtain ⟨_, a, cap, rfl, _⟩ := h; exact ⟨a, cap, rfl⟩
  obtain ⟨W, hW⟩ : ∃ W, W = w.alloc (.cells #[.int .u16 65535] 75) := ⟨_, rfl⟩
  have hu : Upd NoB w W := by rw [hW]; exact (Upd.refl _ _).alloc _
  have hB : W.heap[w.heap.size]? = some (.cells #[.int .u16 65535] 75 (0, 0)) := by rw [hW]; exact heap_alloc_new w _
  obtain ⟨b0, b1, b2, hu2⟩ := boxes3 W (.cells #[.slice a zs.length cap] 27) (.cells #[.int .i64 (0 : Nat)] 3) (.cells #[.int .i64 (0 + 8 * zs.length : Nat)] 3)
  have hs2 : Bytes (((W.alloc (.cells #[.slice a zs.length cap] 27)).alloc (.cells #[.int .i64 (0 : Nat)] 3)).alloc (.cells #[.int .i64 (0 + 8 * zs.length : Nat)] 3)) (.slice a zs.length cap) zs :=
    h.keep (D := fun k => zs ≠ [] ∧ (Value.slice a zs.length cap).ownBlock = some k) ((hu.then hu2).keepD (fun k hk => ⟨by obtain ⟨c, t, fr, hc⟩ := h.lt hk.1 k hk.2; exact lt_of_block hc, noB k⟩)) (fun hz k hk => ⟨hz, hk⟩)
  have hB2 := hu2.heap hB (noB _)
  have hbW := lt_of_block hB
  have hlt : ∀ k, zs ≠ [] ∧ (Value.slice a zs.length cap).ownBlock = some k → k < w.heap.size := fun k hk => by obtain ⟨c, t, fr, hc⟩ := h.lt hk.1 k hk.2; exact lt_of_block hc
  generalize hW2 : ((W.alloc (.cells #[.slice a zs.length cap] 27)).alloc (.cells #[.int .i64 (0 : Nat)] 3)).alloc (.cells #[.int .i64 (0 + 8 * zs.length : Nat)] 3) = W2 at *
  have hD : ∀ k, betweenD W.heap.size (.slice a zs.length cap) zs k → k < W2.heap.size ∧ k ≠ w.heap.size := by
    rintro k (rfl | rfl | rfl | hk)
    · exact ⟨lt_of_block b0, by omega⟩
    · exact ⟨lt_of_block b1, by omega⟩
    · exact ⟨lt_of_block b2, by omega⟩
    · have := hlt k hk
      have := hu.size
      have := hu2.size
      exact ⟨by omega, by omega⟩
  have hfeed := feed_in (gf := 80) (K := 65) (lb := betweenLb W.heap.size) (first := #[]) (cap := #[.pointer (some ⟨w.heap.size, 0, none⟩)]) (Sp := fun pre => pre.map Subtype.val <+: bitsOf zs 0 (8 * zs.length)) (N := 8 * zs.length) W2
    (enters_of Try.func80 (by kernel_rfl) rfl) (enters_of Try.func65 (by kernel_rfl) rfl)
    (between_seq W.heap.size _ zs 0 (8 * zs.length) W2 (by omega) (by omega) (cell_of_one b1) (cell_of_one b2) (cell_of_one b0) hs2 (fun k hk => (hD k hk).1)) (fun h k => h.trans k)
    (fun W' k o' hk => keepD_putObj (fun hd => by have := (hD _ hd).1; omega))
    (fun pre W' => W'.heap[w.heap.size]? = some (.cells #[.int .u16 ((pre.map Subtype.val).foldl c16 65535 : Nat)] 75 (0, 0)) ∧ Upd (fun k => k = w.heap.size) W2 W')
    (fun s A B row hs hg hr => ⟨(hg.block _ (lt_of_block hs.1) (fun e => by
        obtain ⟨_, o, ho, hc⟩ := hr _ e.symm
        rw [hs.1] at ho; cases ho; cases hc)).trans hs.1, hs.2.grown hg (fun k e hk => by have := (hr k e).1; omega)⟩)
    ⟨hB2, Upd.refl _ _⟩
    (fun pre x W' hi hN hbox => by
      refine (step16_any w.heap.size ((pre.map Subtype.val).foldl c16 65535) x.1 W' (fold16_lt _ _ (by omega)) x.2 hi.1).mono ?_
      rintro e W3 ⟨rfl, h1, h2⟩
      refine ⟨⟨_, rfl⟩, ⟨?_, hi.2.trans h2 (fun _ _ h => h)⟩, ?_, ?_, ?_⟩
      · rw [List.map_append, List.foldl_append]; exact h1
      · intro k hk
        exact h2.block k (Nat.lt_of_lt_of_le (hD k hk).1 hi.2.size) (hD k hk).2
      · exact notcells_grown h2 (fun k hk => by subst hk; exact ⟨_, _, _, hi.1⟩) _
      · rintro k rfl
        refine h2.block _ (lt_of_block hbox) ?_
        have := hu2.size
        omega)
  simp only [betweenLb, Int.natCast_zero, Nat.zero_add, Int.natCast_mul, Int.cast_ofNat_Int] at hfeed hW2
  have Hf := Lib.hid hfeed; clear hfeed
  have HW2 := Lib.hid hW2; clear hW2
  have hsz : W.heap.size = w.heap.size + 1 := by rw [hW]; simp
  have Hsz := Lib.hid hsz; clear hsz
  have HW := Lib.hid hW; clear hW
  clear b0 b1 b2 hs2 hB2 h
  go_enter Try.func30, Try.ntmps30
  go_wp2_with (first | (go_at_call 67; refine (between_in _ _ _ _ _ _).mono ?_; rintro e w2 ⟨rfl, rfl⟩))
  rw [← HW.out, HW2.out, ← Hsz.out]
  refine Hf.out.mono ?_
  rintro e W3 ⟨rfl, ys, hys, h1, h2⟩
  rw [hys] at h1
  have hlt16 := fold16_lt (bitsOf zs 0 (8 * zs.length)) 65535 (by omega)
  obtain ⟨y, hy⟩ : ∃ y, y = (bitsOf zs 0 (8 * zs.length)).foldl c16 65535 := ⟨_, rfl⟩
  rw [← hy] at h1 hlt16
  have hc := cell_of_one h1
  have Hy := Lib.hid hy; clear hy
  clear h1 hys
  go_wp2
  go_ret
  refine ⟨by rw [← Hy.out]; rfl, (hu.then hu2).trans h2 ?_⟩
  rintro k hk rfl
  omega
end Go.Proofs.Ytdjaileeklhkmaa
