/- carried over from the texts of the laws of bits, which a seat without these laws leaves out -/
import Derived.Test.YtjnbnhnkjhnbkaaPack
import Derived.Test.YtjnbnhnkjhnbkaaAwake
namespace Go.Proofs.Ytjnbnhnkjhnbkaa
open Go.RowKit Go.Shelf

theorem bytes_upd {S : Nat → Prop} {w w' : World} {sv : Value} {zs : List Nat} (h : Bytes w sv zs) (u : Upd S w w') (hs : zs ≠ [] → ∀ k, sv.ownBlock = some k → ¬ S k) : Bytes w' sv zs :=
  h.keep (D := fun k => zs ≠ [] ∧ sv.ownBlock = some k) (u.keepD (fun k hk => ⟨by obtain ⟨c, t, fr, hc⟩ := h.lt hk.1 k hk.2; exact lt_of_block hc, hs hk.1 k hk.2⟩)) (fun hz k hk => ⟨hz, hk⟩)
theorem WPost.pre {w w1 w' : World} {b : Nat} {v0 : Value} {l : List Nat} (u : Upd NoB w w1) (h : WPost b v0 w1 l w') : WPost b v0 w l w' :=
  h.next (u.mono (fun _ _ h => h.elim)) (newOr.refl _ _)
theorem WRes.pre {w w1 w' : World} {b : Nat} {v0 : Value} {l : List Nat} {bad : Prop} {bs : List Nat} {e : Ending} (u : Upd NoB w w1) (h : WRes b v0 w1 l bad bs e w') : WRes b v0 w l bad bs e w' := by
  obtain ⟨r, rfl, ⟨h1, h2, h3⟩ | ⟨h1, h0, h2, h3⟩ | ⟨h1, h0, h2, h3⟩⟩ := h
  · exact ⟨r, rfl, .inl ⟨h1, h2, u.trans h3 (fun k _ h => h)⟩⟩
  · exact ⟨r, rfl, .inr (.inl ⟨h1, h0, h2, u.trans h3 (fun k _ h => h)⟩)⟩
  · exact ⟨r, rfl, .inr (.inr ⟨h1, h0, h2, h3.pre u⟩)⟩
end Go.Proofs.Ytjnbnhnkjhnbkaa
