/- the reader's calls, more -/
import Derived.Test.YtdjaileeklhkmaaGets
namespace Go.Proofs.Ytdjaileeklhkmaa
open Go.RowKit Go.Shelf

theorem bitsOf_length (zs : List Nat) (s n : Nat) : (bitsOf zs s n).length = n := by simp [bitsOf]
theorem bitsOf_01 (zs : List Nat) (s n : Nat) : ∀ x ∈ bitsOf zs s n, x ≤ 1 := fun x hx => by
  simp only [bitsOf, List.mem_map] at hx
  obtain ⟨i, _, rfl⟩ := hx
  exact bitOf_le _ _
theorem zscan_le (most : Nat) : ∀ (l : List Nat) (n : Nat), (zscan most l n).2 = 0 → n ≤ (zscan most l n).1 ∧ (zscan most l n).1 + 1 ≤ n + l.length ∧ (n ≤ most → (zscan most l n).1 ≤ most)
  | [], n, h => by simp [zscan] at h
  | x :: l, n, h => by
    rw [zscan] at h ⊢
    by_cases hx : x = 1
    · simp only [if_pos hx] at h ⊢
      simp
    · simp only [if_neg hx] at h ⊢
      by_cases hm : n = most
      · simp [if_pos hm] at h
      · simp only [if_neg hm] at h ⊢
        have := zscan_le most l (n + 1) h
        rw [List.length_cons]
        omega
theorem zscan_err (most : Nat) : ∀ (l : List Nat) (n : Nat), (zscan most l n).2 ≠ 0 → (zscan most l n).1 = 0
  | [], n, h => rfl
  | x :: l, n, h => by
    rw [zscan] at h ⊢
    by_cases hx : x = 1
    · simp [if_pos hx] at h
    · simp only [if_neg hx] at h ⊢
      by_cases hm : n = most
      · simp only [if_pos hm]
      · simp only [if_neg hm] at h ⊢
        exact zscan_err most l (n + 1) h

set_option maxRecDepth 100000 in
set_option maxHeartbeats 1000000 in
theorem rsigned_any (b : Nat) (sv : Value) (zs : List Nat) (cnt at_ : Nat) (n : Int) (w : World) (h : RAt w b sv zs cnt at_) (hsep : zs ≠ [] → sv.ownBlock ≠ some b) :
    Calls Try.prog 36 #[.pointer (some ⟨b, 0, none⟩), .int .i64 n] w fun e w' => RRes b sv zs cnt w (sgnR zs cnt at_ n) e w' := by
  have H := Lib.hid h; clear h
  by_cases h1 : n < 1
  · have hr : sgnR zs cnt at_ n = (0, 1, at_) := if_pos (.inl h1)
    have Hr := Lib.hid hr; clear hr
    go_enter Try.func36, Try.ntmps36
    go_wp2
    go_ret2
    rw [Hr.out]
    exact ⟨rfl, H.out, Upd.refl _ _⟩
  obtain ⟨m, rfl⟩ := Int.eq_ofNat_of_zero_le (show 0 ≤ n by omega)
  have hget := get_any b sv zs cnt at_ m w H.out hsep
  by_cases h2 : 32 < (m : Int)
  · have hr : sgnR zs cnt at_ m = (0, 1, at_) := if_pos (.inr h2)
    have hg : getR zs cnt at_ m = (0, 1, at_) := if_pos (.inr h2)
    rw [hg] at hget
    have Hr := Lib.hid hr; clear hr hg
    have Hg := Lib.hid hget; clear hget
    go_enter Try.func36, Try.ntmps36
    go_wp2_with (go_at_call 35; refine Hg.out.mono ?_; rintro e w2 ⟨rfl, hq⟩)
    go_ret2
    rw [Hr.out]
    exact ⟨rfl, hq⟩
  by_cases h3 : (cnt : Int) - at_ < m
  · have hr : sgnR zs cnt at_ m = (0, 3, at_) := by rw [sgnR, if_neg (by omega), if_pos h3]
    have hg : getR zs cnt at_ m = (0, 3, at_) := by rw [getR, if_neg (by omega), if_pos h3]
    rw [hg] at hget
    have Hr := Lib.hid hr; clear hr hg
    have Hg := Lib.hid hget; clear hget
    clear h3
    go_enter Try.func36, Try.ntmps36
    go_wp2_with (go_at_call 35; refine Hg.out.mono ?_; rintro e w2 ⟨rfl, hq⟩)
    go_ret2
    rw [Hr.out]
    exact ⟨rfl, hq⟩
  have hg : getR zs cnt at_ m = ((valBits (bitsOf zs at_ m) : Int), 0, at_ + m) := by rw [getR, if_neg (by omega), if_neg h3, Int.toNat_natCast]
  have hr : sgnR zs cnt at_ m = ((if 2 ^ (m - 1) ≤ valBits (bitsOf zs at_ m) then (valBits (bitsOf zs at_ m) : Int) - 2 ^ m else valBits (bitsOf zs at_ m)), 0, at_ + m) := by rw [sgnR, if_neg (by omega), if_neg h3, Int.toNat_natCast]
  rw [hg] at hget
  have hm1 : 1 ≤ m := by omega
  have hm2 : m ≤ 32 := by omega
  have hv := valBits_lt (bitsOf_01 zs at_ m)
  rw [bitsOf_length] at hv
  have hp := Nat.pow_le_pow_right (n := 2) (by decide) hm2
  have hp' : 2 ^ 32 = 4294967296 := by decide
  rw [hp'] at hp
  generalize valBits (bitsOf zs at_ m) = y at *
  have hpi : (2 : Int) ^ m = ((2 ^ m : Nat) : Int) := by simp
  have hpj : (2 : Int) ^ (m - 1) = ((2 ^ (m - 1) : Nat) : Int) := by simp
  have hhalf : 2 ^ m = 2 * 2 ^ (m - 1) := by rw [← Nat.pow_succ', show (m - 1).succ = m by omega]
  have q1 : ((m : Int) - 1).toNat = m - 1 := by omega
  have Hr := Lib.hid hr; clear hr hg
  have Hg := Lib.hid hget; clear hget
  have hb1 : (2 : Int) ^ m ≤ 4294967296 := by rw [hpi]; omega
  have hb2 : (0 : Int) ≤ 2 ^ m := by rw [hpi]; omega
  have hb3 : (2 : Int) ^ (m - 1) ≤ 4294967296 := by rw [hpj]; omega
  have hb4 : (0 : Int) ≤ 2 ^ (m - 1) := by rw [hpj]; omega
  have hy : (y : Int) < 4294967296 := by omega
  by_cases h4 : 2 ^ (m - 1) ≤ y
  · have h4' : (2 : Int) ^ (m - 1) ≤ y := by rw [hpj]; omega
    have h5 : (if 2 ^ (m - 1) ≤ y then (y : Int) - 2 ^ m else (y : Int)) = (y : Int) - 2 ^ m := if_pos h4
    have H5 := Lib.hid h5; clear h5
    clear h3 hp' hhalf hpi hpj h4 hv hp
    go_enter Try.func36, Try.ntmps36
    go_wp2_with (go_at_call 35; refine Hg.out.mono ?_; rintro e w2 ⟨rfl, hq⟩)
    go_ret2
    rw [Hr.out, H5.out]
    exact ⟨rfl, hq⟩
  · have h4' : decide ((2 : Int) ^ (m - 1) ≤ y) = false := by rw [decide_eq_false_iff_not, hpj]; omega
    have h5 : (if 2 ^ (m - 1) ≤ y then (y : Int) - 2 ^ m else (y : Int)) = (y : Int) := if_neg h4
    have H5 := Lib.hid h5; clear h5
    clear h3 hp' hhalf hpi hpj h4 hv hp
    go_enter Try.func36, Try.ntmps36
    go_wp2_with (go_at_call 35; refine Hg.out.mono ?_; rintro e w2 ⟨rfl, hq⟩)
    go_ret2
    rw [Hr.out, H5.out]
    exact ⟨rfl, hq⟩
theorem rsigned_nil (n : Int) (w : World) : Calls Try.prog 36 #[.pointer none, .int .i64 n] w fun e w' => e = .returned (.tuple #[.int .i64 0, .int .i64 1]) ∧ w = w' := by
  by_cases h1 : n < 1
  all_goals
    go_enter Try.func36, Try.ntmps36
    go_wp2_with (go_at_call 35; refine (get_nil _ _).mono ?_; rintro e w2 ⟨rfl, rfl⟩)
    go_ret2
    exact ⟨rfl, rfl⟩

theorem RAt.move {w : World} {b : Nat} {sv : Value} {zs : List Nat} {cnt at_ : Nat} (h : RAt w b sv zs cnt at_) (hsep : zs ≠ [] → sv.ownBlock ≠ some b) (x : Nat) (hx : x ≤ cnt) :
    RAt (w.setCell ⟨b, 2, none⟩ (.int .i64 x)) b sv zs cnt x ∧ Upd (fun k => k = b) w (w.setCell ⟨b, 2, none⟩ (.int .i64 x)) := by
  have u : Upd (fun k => k = b) w (w.setCell ⟨b, 2, none⟩ (.int .i64 x)) := (Upd.refl _ _).setCell _ (fun _ => rfl)
  refine ⟨⟨block_set h.1 _, h.2.1.keep (D := fun k => zs ≠ [] ∧ sv.ownBlock = some k) (u.keepD (fun k hk => ?_)) (fun hz k hk => ⟨hz, hk⟩), h.2.2.1, hx, h.2.2.2.2⟩, u⟩
  obtain ⟨c, t, fr, hc⟩ := h.2.1.lt hk.1 k hk.2
  refine ⟨lt_of_block hc, ?_⟩
  rintro rfl
  exact hsep hk.1 hk.2

set_option maxRecDepth 100000 in
set_option maxHeartbeats 1000000 in
theorem runary_any (b : Nat) (sv : Value) (zs : List Nat) (cnt at_ : Nat) (n : Int) (w : World) (h : RAt w b sv zs cnt at_) (hsep : zs ≠ [] → sv.ownBlock ≠ some b) :
    Calls Try.prog 37 #[.pointer (some ⟨b, 0, none⟩), .int .i64 n] w fun e w' => RRes b sv zs cnt w (unaR zs cnt at_ n) e w' := by
  have hcnt := h.2.2.2.2.1
  have hat := h.2.2.2.1
  have H := Lib.hid h; clear h
  by_cases h1 : n < 0
  · have hr : unaR zs cnt at_ n = (0, 1, at_) := if_pos (.inl h1)
    have Hr := Lib.hid hr; clear hr
    go_enter Try.func37, Try.ntmps37
    go_wp2
    go_ret2
    rw [Hr.out]
    exact ⟨rfl, H.out, Upd.refl _ _⟩
  by_cases h2 : 1000 < n
  · have hr : unaR zs cnt at_ n = (0, 1, at_) := if_pos (.inr h2)
    have Hr := Lib.hid hr; clear hr
    go_enter Try.func37, Try.ntmps37
    go_wp2
    go_ret2
    rw [Hr.out]
    exact ⟨rfl, H.out, Upd.refl _ _⟩
  obtain ⟨m, rfl⟩ := Int.eq_ofNat_of_zero_le (show 0 ≤ n by omega)
  have hz := zeros_any b sv zs cnt at_ m w H.out (by omega)
  have hle := zscan_le m (bitsOf zs at_ (cnt - at_)) 0
  rw [bitsOf_length] at hle
  have hr : unaR zs cnt at_ m = if (zscan m (bitsOf zs at_ (cnt - at_)) 0).2 = 0 then (((zscan m (bitsOf zs at_ (cnt - at_)) 0).1 : Int), 0, at_ + ((zscan m (bitsOf zs at_ (cnt - at_)) 0).1 + 1)) else (0, ((zscan m (bitsOf zs at_ (cnt - at_)) 0).2 : Int), at_) := by
    rw [unaR, if_neg (by omega), Int.toNat_natCast]
  generalize (zscan m (bitsOf zs at_ (cnt - at_)) 0).1 = r1 at *
  generalize (zscan m (bitsOf zs at_ (cnt - at_)) 0).2 = r2 at *
  have Hz := Lib.hid hz; clear hz
  by_cases h4 : r2 = 0
  · subst h4
    rw [if_pos rfl] at hr
    obtain ⟨l1, l2, l3⟩ := hle rfl
    have Hr := Lib.hid hr; clear hr hle
    have hr1 : r1 ≤ 1048576 := by omega
    have hlast : at_ + (r1 + 1) ≤ cnt := by omega
    have hc0 := H.out.c2
    clear l3
    go_enter Try.func37, Try.ntmps37
    go_wp2_with (go_at_call 71; refine Hz.out.mono ?_; rintro e w2 ⟨rfl, hu2⟩; have hR2 := H.out.upd hu2 (fun k _ => noB k); have hc2 := hR2.c2; have hf2 := blk_free hR2.1 2; have HR2 := Lib.hid hR2; clear hR2)
    go_ret2
    rw [Hr.out]
    obtain ⟨m1, m2⟩ := HR2.out.move hsep (at_ + (r1 + 1)) hlast
    have e1 : (at_ : Int) + (r1 + 1) = ((at_ + (r1 + 1) : Nat) : Int) := by omega
    rw [e1]
    exact ⟨rfl, m1, (nob hu2).trans m2 (fun _ _ h => h)⟩
  · rw [if_neg h4] at hr
    have h4b : ((r2 : Int) != 0) = true := by simp; omega
    have Hr := Lib.hid hr; clear hr hle
    go_enter Try.func37, Try.ntmps37
    go_wp2_with (go_at_call 71; refine Hz.out.mono ?_; rintro e w2 ⟨rfl, hu2⟩)
    go_ret2
    rw [Hr.out]
    exact ⟨rfl, H.out.upd hu2 (fun k _ => noB k), nob hu2⟩
theorem runary_nil (n : Int) (w : World) : Calls Try.prog 37 #[.pointer none, .int .i64 n] w fun e w' => e = .returned (.tuple #[.int .i64 0, .int .i64 1]) ∧ w = w' := by
  go_enter Try.func37, Try.ntmps37
  go_wp2
  go_ret2
  exact ⟨rfl, rfl⟩
end Go.Proofs.Ytdjaileeklhkmaa
