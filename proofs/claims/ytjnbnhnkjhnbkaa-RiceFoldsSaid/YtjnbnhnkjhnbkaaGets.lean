/- the reader's calls -/
import Derived.Test.YtjnbnhnkjhnbkaaZeros
namespace Go.Proofs.Ytjnbnhnkjhnbkaa
open Go.RowKit Go.Shelf

/-- value, error, position -/
def getR (zs : List Nat) (cnt at_ : Nat) (n : Int) : Int × Int × Nat :=
  if n < 0 ∨ 32 < n then (0, 1, at_) else if (cnt : Int) - at_ < n then (0, 3, at_) else ((valBits (bitsOf zs at_ n.toNat) : Int), 0, at_ + n.toNat)
def sgnR (zs : List Nat) (cnt at_ : Nat) (n : Int) : Int × Int × Nat :=
  if n < 1 ∨ 32 < n then (0, 1, at_) else if (cnt : Int) - at_ < n then (0, 3, at_) else
    ((if 2 ^ (n.toNat - 1) ≤ valBits (bitsOf zs at_ n.toNat) then (valBits (bitsOf zs at_ n.toNat) : Int) - 2 ^ n.toNat else valBits (bitsOf zs at_ n.toNat)), 0, at_ + n.toNat)
def unaR (zs : List Nat) (cnt at_ : Nat) (n : Int) : Int × Int × Nat :=
  if n < 0 ∨ 1000 < n then (0, 1, at_) else
    if (zscan n.toNat (bitsOf zs at_ (cnt - at_)) 0).2 = 0 then ((zscan n.toNat (bitsOf zs at_ (cnt - at_)) 0).1, 0, at_ + ((zscan n.toNat (bitsOf zs at_ (cnt - at_)) 0).1 + 1)) else (0, (zscan n.toNat (bitsOf zs at_ (cnt - at_)) 0).2, at_)
def gamR (zs : List Nat) (cnt at_ : Nat) : Int × Int × Nat :=
  if (zscan 20 (bitsOf zs at_ (cnt - at_)) 0).2 = 0 then
    if (cnt : Int) - at_ < 2 * (zscan 20 (bitsOf zs at_ (cnt - at_)) 0).1 + 1 then (0, 3, at_) else
      ((valBits (bitsOf zs (at_ + (zscan 20 (bitsOf zs at_ (cnt - at_)) 0).1) ((zscan 20 (bitsOf zs at_ (cnt - at_)) 0).1 + 1)) : Int), 0, at_ + (zscan 20 (bitsOf zs at_ (cnt - at_)) 0).1 + ((zscan 20 (bitsOf zs at_ (cnt - at_)) 0).1 + 1))
  else (0, (zscan 20 (bitsOf zs at_ (cnt - at_)) 0).2, at_)

/-- What a call of a reader comes to. -/
def RRes (b : Nat) (sv : Value) (zs : List Nat) (cnt : Nat) (w : World) (r : Int × Int × Nat) (e : Ending) (w' : World) : Prop :=
  e = .returned (.tuple #[.int .i64 r.1, .int .i64 r.2.1]) ∧ RAt w' b sv zs cnt r.2.2 ∧ Upd (fun k => k = b) w w'

theorem RAt.sv {w : World} {b : Nat} {sv : Value} {zs : List Nat} {cnt at_ : Nat} (h : RAt w b sv zs cnt at_) : ∃ a cap, sv = .slice a zs.length cap := by
  obtain ⟨_, ⟨_, a, cap, rfl, _⟩, _⟩ := h; exact ⟨a, cap, rfl⟩
theorem RAt.drew {w : World} {b : Nat} {sv : Value} {zs : List Nat} {cnt at_ : Nat} (h : RAt w b sv zs cnt at_) : RAt w.drew b sv zs cnt at_ := h
theorem nob {b : Nat} {w w' : World} (h : Upd NoB w w') : Upd (fun k => k = b) w w' := h.mono (fun k _ hk => (noB k hk).elim)

theorem get_nil (n : Int) (w : World) : Calls Try.prog 98 #[.pointer none, .int .i64 n] w fun e w' => e = .returned (.tuple #[.int .i64 0, .int .i64 1]) ∧ w = w' := by
  go_enter Try.func98, Try.ntmps98
  go_wp2
  go_ret2
  exact ⟨rfl, rfl⟩

set_option maxRecDepth 100000 in
set_option maxHeartbeats 1000000 in
theorem get_any (b : Nat) (sv : Value) (zs : List Nat) (cnt at_ : Nat) (n : Int) (w : World) (h : RAt w b sv zs cnt at_) (hsep : zs ≠ [] → sv.ownBlock ≠ some b) :
    Calls Try.prog 98 #[.pointer (some ⟨b, 0, none⟩), .int .i64 n] w fun e w' => RRes b sv zs cnt w (getR zs cnt at_ n) e w' := by
  have c1 := h.c1
  have c2 := h.c2
  have hcnt := h.2.2.2.2.1
  have hat := h.2.2.2.1
  have H := Lib.hid h; clear h
  by_cases h1 : n < 0
  · have hr : getR zs cnt at_ n = (0, 1, at_) := if_pos (.inl h1)
    have Hr := Lib.hid hr; clear hr
    go_enter Try.func98, Try.ntmps98
    go_wp2
    go_ret2
    rw [Hr.out]
    exact ⟨rfl, H.out, Upd.refl _ _⟩
  by_cases h2 : 32 < n
  · have hr : getR zs cnt at_ n = (0, 1, at_) := if_pos (.inr h2)
    have Hr := Lib.hid hr; clear hr
    go_enter Try.func98, Try.ntmps98
    go_wp2
    go_ret2
    rw [Hr.out]
    exact ⟨rfl, H.out, Upd.refl _ _⟩
  obtain ⟨m, rfl⟩ := Int.eq_ofNat_of_zero_le (show 0 ≤ n by omega)
  by_cases h3 : (cnt : Int) - at_ < m
  · have hr : getR zs cnt at_ m = (0, 3, at_) := by rw [getR, if_neg (by omega), if_pos h3]
    have Hr := Lib.hid hr; clear hr
    go_enter Try.func98, Try.ntmps98
    go_wp2_with (go_at_call 47; refine (left_any b cnt at_ _ c1 c2 hcnt hat).mono ?_; rintro e w2 ⟨rfl, rfl⟩)
    go_ret2
    rw [Hr.out]
    exact ⟨rfl, H.out.drew, (Upd.refl _ _).drew⟩
  · have hr : getR zs cnt at_ m = ((valBits (bitsOf zs at_ m) : Int), 0, at_ + m) := by rw [getR, if_neg (by omega), if_neg h3, Int.toNat_natCast]
    have Hr := Lib.hid hr; clear hr
    have hm : at_ + m ≤ cnt := by omega
    have hm40 : m ≤ 40 := by omega
    go_enter Try.func98, Try.ntmps98
    go_wp2_with (first | (go_at_call 47; refine (left_any b cnt at_ _ c1 c2 hcnt hat).mono ?_; rintro e w2 ⟨rfl, rfl⟩) | (go_at_call 112; refine (rnumber_any b sv zs cnt at_ m _ H.out.drew hm hm40 hsep).mono ?_; rintro e w2 ⟨rfl, hr2, hu2⟩))
    go_ret2
    rw [Hr.out]
    exact ⟨rfl, hr2, (nob (Upd.refl _ _).drew).trans hu2 (fun _ _ h => h)⟩
end Go.Proofs.Ytjnbnhnkjhnbkaa
