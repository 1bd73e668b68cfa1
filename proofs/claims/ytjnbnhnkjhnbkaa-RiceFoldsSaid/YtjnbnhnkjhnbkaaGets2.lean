/- the reader's calls, more -/
import Derived.Test.YtjnbnhnkjhnbkaaGets
namespace Go.Proofs.Ytjnbnhnkjhnbkaa
open Go.RowKit Go.Shelf

theorem bitsOf_length (zs : List Nat) (s n : Nat) : (bitsOf zs s n).length = n := by simp [bitsOf]
theorem bitsOf_01 (zs : List Nat) (s n : Nat) : ∀ x ∈ bitsOf zs s n, x ≤ 1 := fun x hx => by
  simp only [bitsOf, List.mem_map] at hx
  obtain ⟨i, _, rfl⟩ := hx
  exact bitOf_le _ _
theorem zscan_le (most : Nat) : ∀ (l : List Nat) (n : Nat), (zscan most l n).2 = 0 → n ≤ (zscan most l n).1 ∧ (zscan most l n).1 + 1 ≤ n + l.length ∧ (n ≤ most → (zscan most l n).1 ≤ most)
  | [], n, h => by simp [zscan] at h
  | x :: l, n, h => by
    rw [zscan] at h ⊢
    by_cases hx : x = 1
    · simp only [if_pos hx] at h ⊢
      simp
    · simp only [if_neg hx] at h ⊢
      by_cases hm : n = most
      · simp [if_pos hm] at h
      · simp only [if_neg hm] at h ⊢
        have := zscan_le most l (n + 1) h
        rw [List.length_cons]
        omega
theorem zscan_err (most : Nat) : ∀ (l : List Nat) (n : Nat), (zscan most l n).2 ≠ 0 → (zscan most l n).1 = 0
  | [], n, h => rfl
  | x :: l, n, h => by
    rw [zscan] at h ⊢
    by_cases hx : x = 1
    · simp [if_pos hx] at h
    · simp only [if_neg hx] at h ⊢
      by_cases hm : n = most
      · simp only [if_pos hm]
      · simp only [if_neg hm] at h ⊢
        exact zscan_err most l (n + 1) h

theorem RAt.move {w : World} {b : Nat} {sv : Value} {zs : List Nat} {cnt at_ : Nat} (h : RAt w b sv zs cnt at_) (hsep : zs ≠ [] → sv.ownBlock ≠ some b) (x : Nat) (hx : x ≤ cnt) :
    RAt (w.setCell ⟨b, 2, none⟩ (.int .i64 x)) b sv zs cnt x ∧ Upd (fun k => k = b) w (w.setCell ⟨b, 2, none⟩ (.int .i64 x)) := by
  have u : Upd (fun k => k = b) w (w.setCell ⟨b, 2, none⟩ (.int .i64 x)) := (Upd.refl _ _).setCell _ (fun _ => rfl)
  refine ⟨⟨block_set h.1 _, h.2.1.keep (D := fun k => zs ≠ [] ∧ sv.ownBlock = some k) (u.keepD (fun k hk => ?_)) (fun hz k hk => ⟨hz, hk⟩), h.2.2.1, hx, h.2.2.2.2⟩, u⟩
  obtain ⟨c, t, fr, hc⟩ := h.2.1.lt hk.1 k hk.2
  refine ⟨lt_of_block hc, ?_⟩
  rintro rfl
  exact hsep hk.1 hk.2

set_option maxRecDepth 100000 in
set_option maxHeartbeats 1000000 in
theorem runary_any (b : Nat) (sv : Value) (zs : List Nat) (cnt at_ : Nat) (n : Int) (w : World) (h : RAt w b sv zs cnt at_) (hsep : zs ≠ [] → sv.ownBlock ≠ some b) :
    Calls Try.prog 97 #[.pointer (some ⟨b, 0, none⟩), .int .i64 n] w fun e w' => RRes b sv zs cnt w (unaR zs cnt at_ n) e w' := by
  have hcnt := h.2.2.2.2.1
  have hat := h.2.2.2.1
  have H := Lib.hid h; clear h
  by_cases h1 : n < 0
  · have hr : unaR zs cnt at_ n = (0, 1, at_) := if_pos (.inl h1)
    have Hr := Lib.hid hr; clear hr
    go_enter Try.func97, Try.ntmps97
    go_wp2
    go_ret2
    rw [Hr.out]
    exact ⟨rfl, H.out, Upd.refl _ _⟩
  by_cases h2 : 1000 < n
  · have hr : unaR zs cnt at_ n = (0, 1, at_) := if_pos (.inr h2)
    have Hr := Lib.hid hr; clear hr
    go_enter Try.func97, Try.ntmps97
    go_wp2
    go_ret2
    rw [Hr.out]
    exact ⟨rfl, H.out, Upd.refl _ _⟩
  obtain ⟨m, rfl⟩ := Int.eq_ofNat_of_zero_le (show 0 ≤ n by omega)
  have hz := zeros_any b sv zs cnt at_ m w H.out (by omega)
  have hle := zscan_le m (bitsOf zs at_ (cnt - at_)) 0
  rw [bitsOf_length] at hle
  have hr : unaR zs cnt at_ m = if (zscan m (bitsOf zs at_ (cnt - at_)) 0).2 = 0 then (((zscan m (bitsOf zs at_ (cnt - at_)) 0).1 : Int), 0, at_ + ((zscan m (bitsOf zs at_ (cnt - at_)) 0).1 + 1)) else (0, ((zscan m (bitsOf zs at_ (cnt - at_)) 0).2 : Int), at_) := by
    rw [unaR, if_neg (by omega), Int.toNat_natCast]
  generalize (zscan m (bitsOf zs at_ (cnt - at_)) 0).1 = r1 at *
  generalize (zscan m (bitsOf zs at_ (cnt - at_)) 0).2 = r2 at *
  have Hz := Lib.hid hz; clear hz
  by_cases h4 : r2 = 0
  · subst h4
    rw [if_pos rfl] at hr
    obtain ⟨l1, l2, l3⟩ := hle rfl
    have Hr := Lib.hid hr; clear hr hle
    have hr1 : r1 ≤ 1048576 := by omega
    have hlast : at_ + (r1 + 1) ≤ cnt := by omega
    have hc0 := H.out.c2
    clear l3
    go_enter Try.func97, Try.ntmps97
    go_wp2_with (go_at_call 111; refine Hz.out.mono ?_; rintro e w2 ⟨rfl, hu2⟩; have hR2 := H.out.upd hu2 (fun k _ => noB k); have hc2 := hR2.c2; have hf2 := blk_free hR2.1 2; have HR2 := Lib.hid hR2; clear hR2)
    go_ret2
    rw [Hr.out]
    obtain ⟨m1, m2⟩ := HR2.out.move hsep (at_ + (r1 + 1)) hlast
    have e1 : (at_ : Int) + (r1 + 1) = ((at_ + (r1 + 1) : Nat) : Int) := by omega
    rw [e1]
    exact ⟨rfl, m1, (nob hu2).trans m2 (fun _ _ h => h)⟩
  · rw [if_neg h4] at hr
    have h4b : ((r2 : Int) != 0) = true := by simp; omega
    have Hr := Lib.hid hr; clear hr hle
    go_enter Try.func97, Try.ntmps97
    go_wp2_with (go_at_call 111; refine Hz.out.mono ?_; rintro e w2 ⟨rfl, hu2⟩)
    go_ret2
    rw [Hr.out]
    exact ⟨rfl, H.out.upd hu2 (fun k _ => noB k), nob hu2⟩
theorem runary_nil (n : Int) (w : World) : Calls Try.prog 97 #[.pointer none, .int .i64 n] w fun e w' => e = .returned (.tuple #[.int .i64 0, .int .i64 1]) ∧ w = w' := by
  go_enter Try.func97, Try.ntmps97
  go_wp2
  go_ret2
  exact ⟨rfl, rfl⟩
end Go.Proofs.Ytjnbnhnkjhnbkaa
