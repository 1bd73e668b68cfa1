/- the reader's calls: Gamma, Take, Align, Seek, Open -/
import Derived.Test.YtjnbnhnkjhnbkaaGets2
namespace Go.Proofs.Ytjnbnhnkjhnbkaa
open Go.RowKit Go.Shelf

def seekR (cnt at_ : Nat) (n : Int) : Int × Nat := if n < 0 ∨ (cnt : Int) < n then (6, at_) else (0, n.toNat)
set_option maxRecDepth 100000 in
theorem seek_any (b : Nat) (sv : Value) (zs : List Nat) (cnt at_ : Nat) (n : Int) (w : World) (h : RAt w b sv zs cnt at_) (hsep : zs ≠ [] → sv.ownBlock ≠ some b) :
    Calls Try.prog 35 #[.pointer (some ⟨b, 0, none⟩), .int .i64 n] w fun e w' => e = .returned (.int .i64 (seekR cnt at_ n).1) ∧ RAt w' b sv zs cnt (seekR cnt at_ n).2 ∧ Upd (fun k => k = b) w w' := by
  have c1 := h.c1
  have c2 := h.c2
  have f2 := blk_free h.1 2
  have H := Lib.hid h; clear h
  by_cases h1 : n < 0
  · have hr : seekR cnt at_ n = (6, at_) := if_pos (.inl h1)
    have Hr := Lib.hid hr; clear hr
    go_enter Try.func35, Try.ntmps35
    go_wp2
    go_ret
    rw [Hr.out]
    exact ⟨rfl, H.out, Upd.refl _ _⟩
  by_cases h2 : (cnt : Int) < n
  · have hr : seekR cnt at_ n = (6, at_) := if_pos (.inr h2)
    have Hr := Lib.hid hr; clear hr
    go_enter Try.func35, Try.ntmps35
    go_wp2
    go_ret
    rw [Hr.out]
    exact ⟨rfl, H.out, Upd.refl _ _⟩
  obtain ⟨m, rfl⟩ := Int.eq_ofNat_of_zero_le (show 0 ≤ n by omega)
  have hr : seekR cnt at_ m = (0, m) := by rw [seekR, if_neg (by omega), Int.toNat_natCast]
  obtain ⟨m1, m2⟩ := H.out.move hsep m (by omega)
  have Hr := Lib.hid hr; clear hr
  have M1 := Lib.hid m1; clear m1
  have M2 := Lib.hid m2; clear m2
  go_enter Try.func35, Try.ntmps35
  go_wp2
  go_ret
  rw [Hr.out]
  exact ⟨rfl, M1.out, M2.out⟩
theorem seek_nil (n : Int) (w : World) : Calls Try.prog 35 #[.pointer none, .int .i64 n] w fun e w' => e = .returned (.int .i64 1) ∧ w = w' := by
  go_enter Try.func35, Try.ntmps35
  go_wp2
  go_ret
  exact ⟨rfl, rfl⟩

def alnN (cnt at_ : Nat) : Nat := min ((8 - at_ % 8) % 8) (cnt - at_)
end Go.Proofs.Ytjnbnhnkjhnbkaa
