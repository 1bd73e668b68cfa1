/- the reader's calls: Gamma, Take, Align, Seek, Open -/
import Derived.Test.YtdjaileeklhkmaaGets2
namespace Go.Proofs.Ytdjaileeklhkmaa
open Go.RowKit Go.Shelf

set_option maxRecDepth 100000 in
set_option maxHeartbeats 1000000 in
theorem rgamma_any (b : Nat) (sv : Value) (zs : List Nat) (cnt at_ : Nat) (w : World) (h : RAt w b sv zs cnt at_) (hsep : zs ≠ [] → sv.ownBlock ≠ some b) :
    Calls Try.prog 38 #[.pointer (some ⟨b, 0, none⟩)] w fun e w' => RRes b sv zs cnt w (gamR zs cnt at_) e w' := by
  have hcnt := h.2.2.2.2.1
  have hat := h.2.2.2.1
  have H := Lib.hid h; clear h
  have hz := zeros_any b sv zs cnt at_ 20 w H.out (by omega)
  have hle := zscan_le 20 (bitsOf zs at_ (cnt - at_)) 0
  rw [bitsOf_length] at hle
  have hr : gamR zs cnt at_ = if (zscan 20 (bitsOf zs at_ (cnt - at_)) 0).2 = 0 then
    if (cnt : Int) - at_ < 2 * (zscan 20 (bitsOf zs at_ (cnt - at_)) 0).1 + 1 then (0, 3, at_) else
      ((valBits (bitsOf zs (at_ + (zscan 20 (bitsOf zs at_ (cnt - at_)) 0).1) ((zscan 20 (bitsOf zs at_ (cnt - at_)) 0).1 + 1)) : Int), 0, at_ + (zscan 20 (bitsOf zs at_ (cnt - at_)) 0).1 + ((zscan 20 (bitsOf zs at_ (cnt - at_)) 0).1 + 1))
    else (0, ((zscan 20 (bitsOf zs at_ (cnt - at_)) 0).2 : Int), at_) := rfl
  generalize (zscan 20 (bitsOf zs at_ (cnt - at_)) 0).1 = r1 at *
  generalize (zscan 20 (bitsOf zs at_ (cnt - at_)) 0).2 = r2 at *
  have Hz := Lib.hid hz; clear hz
  by_cases h4 : r2 = 0
  · subst h4
    rw [if_pos rfl] at hr
    obtain ⟨l1, l2, l3⟩ := hle rfl
    have l4 := l3 (by omega)
    have hc0 := H.out.c2
    clear l3 hle
    by_cases h5 : (cnt : Int) - at_ < 2 * r1 + 1
    · rw [if_pos h5] at hr
      have Hr := Lib.hid hr; clear hr
      go_enter Try.func38, Try.ntmps38
      go_wp2_with (first | (go_at_call 71; refine Hz.out.mono ?_; rintro e w2 ⟨rfl, hu2⟩; have hR2 := H.out.upd hu2 (fun k _ => noB k); have hc1 := hR2.c1; have hc2 := hR2.c2; have HR2 := Lib.hid hR2; clear hR2) | (go_at_call 28; refine (left_any b cnt at_ _ hc1 hc2 hcnt hat).mono ?_; rintro e w3 ⟨rfl, rfl⟩))
      go_ret2
      rw [Hr.out]
      exact ⟨rfl, HR2.out.drew, nob hu2.drew⟩
    · rw [if_neg h5] at hr
      have Hr := Lib.hid hr; clear hr
      have m1 : at_ + r1 ≤ cnt := by omega
      have m2 : at_ + r1 + (r1 + 1) ≤ cnt := by omega
      have m3 : r1 + 1 ≤ 40 := by omega
      have e1 : (at_ : Int) + r1 = ((at_ + r1 : Nat) : Int) := by omega
      have E1 := Lib.hid e1; clear e1
      go_enter Try.func38, Try.ntmps38
      go_wp2_with (first | (go_at_call 71; refine Hz.out.mono ?_; rintro e w2 ⟨rfl, hu2⟩; have hR2 := H.out.upd hu2 (fun k _ => noB k); have hc1 := hR2.c1; have hc2 := hR2.c2; have hf2 := blk_free hR2.1 2; have HR2 := Lib.hid hR2; clear hR2) | (go_at_call 28; refine (left_any b cnt at_ _ hc1 hc2 hcnt hat).mono ?_; rintro e w3 ⟨rfl, rfl⟩) | fail)
      obtain ⟨mv1, mv2⟩ := HR2.out.move hsep (at_ + r1) m1
      rw [Int.natCast_add] at mv1 mv2
      have hnum := rnumber_any b sv zs cnt (at_ + r1) (r1 + 1) _ mv1.drew m2 m3 hsep
      rw [Int.natCast_add] at hnum
      refine hnum.mono ?_
      rintro e w4 ⟨rfl, hr4, hu4⟩
      go_wp2
      go_ret2
      rw [Hr.out]
      exact ⟨rfl, hr4, ((nob hu2).trans mv2.drew (fun _ _ h => h)).trans hu4 (fun _ _ h => h)⟩
  · rw [if_neg h4] at hr
    have h4b : ((r2 : Int) != 0) = true := by simp; omega
    have Hr := Lib.hid hr; clear hr hle
    go_enter Try.func38, Try.ntmps38
    go_wp2_with (go_at_call 71; refine Hz.out.mono ?_; rintro e w2 ⟨rfl, hu2⟩)
    go_ret2
    rw [Hr.out]
    exact ⟨rfl, H.out.upd hu2 (fun k _ => noB k), nob hu2⟩
theorem rgamma_nil (w : World) : Calls Try.prog 38 #[.pointer none] w fun e w' => e = .returned (.tuple #[.int .i64 0, .int .i64 1]) ∧ w = w' := by
  go_enter Try.func38, Try.ntmps38
  go_wp2
  go_ret2
  exact ⟨rfl, rfl⟩

def seekR (cnt at_ : Nat) (n : Int) : Int × Nat := if n < 0 ∨ (cnt : Int) < n then (6, at_) else (0, n.toNat)
set_option maxRecDepth 100000 in
theorem seek_any (b : Nat) (sv : Value) (zs : List Nat) (cnt at_ : Nat) (n : Int) (w : World) (h : RAt w b sv zs cnt at_) (hsep : zs ≠ [] → sv.ownBlock ≠ some b) :
    Calls Try.prog 44 #[.pointer (some ⟨b, 0, none⟩), .int .i64 n] w fun e w' => e = .returned (.int .i64 (seekR cnt at_ n).1) ∧ RAt w' b sv zs cnt (seekR cnt at_ n).2 ∧ Upd (fun k => k = b) w w' := by
  have c1 := h.c1
  have c2 := h.c2
  have f2 := blk_free h.1 2
  have H := Lib.hid h; clear h
  by_cases h1 : n < 0
  · have hr : seekR cnt at_ n = (6, at_) := if_pos (.inl h1)
    have Hr := Lib.hid hr; clear hr
    go_enter Try.func44, Try.ntmps44
    go_wp2
    go_ret
    rw [Hr.out]
    exact ⟨rfl, H.out, Upd.refl _ _⟩
  by_cases h2 : (cnt : Int) < n
  · have hr : seekR cnt at_ n = (6, at_) := if_pos (.inr h2)
    have Hr := Lib.hid hr; clear hr
    go_enter Try.func44, Try.ntmps44
    go_wp2
    go_ret
    rw [Hr.out]
    exact ⟨rfl, H.out, Upd.refl _ _⟩
  obtain ⟨m, rfl⟩ := Int.eq_ofNat_of_zero_le (show 0 ≤ n by omega)
  have hr : seekR cnt at_ m = (0, m) := by rw [seekR, if_neg (by omega), Int.toNat_natCast]
  obtain ⟨m1, m2⟩ := H.out.move hsep m (by omega)
  have Hr := Lib.hid hr; clear hr
  have M1 := Lib.hid m1; clear m1
  have M2 := Lib.hid m2; clear m2
  go_enter Try.func44, Try.ntmps44
  go_wp2
  go_ret
  rw [Hr.out]
  exact ⟨rfl, M1.out, M2.out⟩
theorem seek_nil (n : Int) (w : World) : Calls Try.prog 44 #[.pointer none, .int .i64 n] w fun e w' => e = .returned (.int .i64 1) ∧ w = w' := by
  go_enter Try.func44, Try.ntmps44
  go_wp2
  go_ret
  exact ⟨rfl, rfl⟩

def alnN (cnt at_ : Nat) : Nat := min ((8 - at_ % 8) % 8) (cnt - at_)
set_option maxRecDepth 100000 in
set_option maxHeartbeats 1000000 in
theorem ralign_any (b : Nat) (sv : Value) (zs : List Nat) (cnt at_ : Nat) (w : World) (h : RAt w b sv zs cnt at_) (hsep : zs ≠ [] → sv.ownBlock ≠ some b) :
    Calls Try.prog 39 #[.pointer (some ⟨b, 0, none⟩)] w fun e w' => e = .returned (.int .i64 (alnN cnt at_ : Nat)) ∧ RAt w' b sv zs cnt (at_ + alnN cnt at_) ∧ Upd (fun k => k = b) w w' := by
  have hcnt := h.2.2.2.2.1
  have hat := h.2.2.2.1
  have c1 := h.c1
  have c2 := h.c2
  have f2 := blk_free h.1 2
  have H := Lib.hid h; clear h
  have k0 : (at_ : Int).tmod 8 = (at_ : Int) % 8 := Int.tmod_eq_emod_of_nonneg (by omega)
  have k1 : IntKind.i64.wrap (8 - (at_ : Int) % 8) = 8 - (at_ : Int) % 8 := IntWalk.i64_in _ (by omega)
  have k2 : (8 - (at_ : Int) % 8).tmod 8 = (8 - (at_ : Int) % 8) % 8 := Int.tmod_eq_emod_of_nonneg (by omega)
  have hq : ∀ n, Calls Try.prog 28 #[.pointer (some ⟨b, 0, none⟩)] (w.drewN n) fun e w'' => e = .returned (.int .i64 ((cnt : Int) - at_)) ∧ ∃ m, w'' = w.drewN m := fun n =>
    Calls.quiet_of ((left_any b cnt at_ (w.drewN n) c1 c2 hcnt hat).mono (fun _ _ h => ⟨h.1, 1, h.2⟩))
  have Hq := Lib.hid hq; clear hq
  go_enter Try.func39, Try.ntmps39
  go_wp2
  go_quiet ((exact Hq.out _))
  have hle : at_ + alnN cnt at_ ≤ cnt := by unfold alnN; omega
  have hmove : ∀ X : Int, X = (alnN cnt at_ : Nat) → RAt ((w.drewN nq).setCell ⟨b, 2, none⟩ (.int .i64 (at_ + X))) b sv zs cnt (at_ + alnN cnt at_) ∧ Upd (fun k => k = b) w ((w.drewN nq).setCell ⟨b, 2, none⟩ (.int .i64 (at_ + X))) := by
    rintro X rfl
    obtain ⟨m1, m2⟩ := RAt.move (w := w.drewN nq) H.out hsep (at_ + alnN cnt at_) hle
    rw [Int.natCast_add] at m1 m2
    exact ⟨m1, m2.os, m2.tape, m2.output, m2.size, m2.block⟩
  have Hm := Lib.hid hmove; clear hmove hle
  go_wp2
  all_goals go_ret
  · have e : (cnt : Int) - at_ = (alnN cnt at_ : Nat) := by unfold alnN; omega
    exact ⟨by rw [e]; rfl, Hm.out _ e⟩
  · have e : (-((at_ : Int) % 8) % 8 : Int) = (alnN cnt at_ : Nat) := by unfold alnN; omega
    exact ⟨by rw [e]; rfl, Hm.out _ e⟩
theorem ralign_nil (w : World) : Calls Try.prog 39 #[.pointer none] w fun e w' => e = .returned (.int .i64 0) ∧ w = w' := by
  go_enter Try.func39, Try.ntmps39
  go_wp2
  go_ret
  exact ⟨rfl, rfl⟩
end Go.Proofs.Ytdjaileeklhkmaa
