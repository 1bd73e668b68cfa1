/- the examples of the chapter hold -/
import Derived.Test.YtjnbnhnkjhnbkaaRef2
import Derived.Lib.SlBytesConst
namespace Go.Proofs.Ytjnbnhnkjhnbkaa
open Go.RowKit Go.Shelf

theorem WRes.ok {b : Nat} {v : Value} {w : World} {l : List Nat} {bad : Prop} {bs : List Nat} {e : Ending} {w' : World} (h : WRes b v w l bad bs e w') (hb : ¬ bad) (hf : l.length + bs.length ≤ 1048576) : e = .returned (.int .i64 0) ∧ WPost b v w (l ++ bs) w' := by
  obtain ⟨r, rfl, ⟨h1, h2, h3⟩ | ⟨h1, h0, h2, h3⟩ | ⟨h1, h0, rfl, h3⟩⟩ := h
  · exact absurd h1 hb
  · omega
  · exact ⟨rfl, h3⟩
/-- A writer made behind w0: what a call leaves. -/
theorem WPost.step {w0 w w' : World} {b : Nat} {v : Value} {l : List Nat} (U : Upd NoB w0 w) (hb : w0.heap.size ≤ b) (hv : newB w0 v) (p : WPost b v w l w') : ∃ v', WAt w' b l v' ∧ Upd NoB w0 w' ∧ newB w0 v' := by
  obtain ⟨v', h1, h2, h3⟩ := p
  refine ⟨v', h1, U.trans h2 ?_, fun k hk => ?_⟩
  · rintro k hk (rfl | h)
    · omega
    · have := hv k h; omega
  · rcases h3 k hk with h | h
    · exact hv k h
    · have := U.size; omega
theorem RRes.step {w0 w w' : World} {b : Nat} {sv : Value} {zs : List Nat} {cnt : Nat} {r : Int × Int × Nat} {e : Ending} (U : Upd NoB w0 w) (hb : w0.heap.size ≤ b) (p : RRes b sv zs cnt w r e w') :
    e = .returned (.tuple #[.int .i64 r.1, .int .i64 r.2.1]) ∧ RAt w' b sv zs cnt r.2.2 ∧ Upd NoB w0 w' := by
  obtain ⟨h1, h2, h3⟩ := p
  refine ⟨h1, h2, U.trans h3 ?_⟩
  intro k hk h
  have h : k = b := h
  omega
theorem newB_nil (w : World) : newB w (.slice none 0 0) := fun k hk => by simp [Value.ownBlock] at hk
/-- A literal of bytes, made just now. -/
theorem lit8 (w : World) (zs : List Nat) (h : ∀ j, zs.getD j 0 ≤ 255) (hl : zs.length ≤ 1099511627776) : Row8 (w.alloc (.cells (u8s zs).toArray 5)) (.slice (some ⟨w.heap.size, 0, none⟩) zs.length zs.length) zs :=
  ⟨by simpa using World.ownsRow_lit (base := 0) (size := 1) (e := 5) w (u8s zs).toArray zs.length (Nat.zero_le _) (by unfold maxLen; omega) (by simp [u8s_length]), h⟩
theorem all255 {l : List Nat} (h : ∀ x ∈ l, x ≤ 255) (j : Nat) : l.getD j 0 ≤ 255 := by
  simp only [List.getD_eq_getElem?_getD]
  cases hj : l[j]? with
  | none => simp
  | some y => have := h y (List.mem_of_getElem? hj); simpa using this
theorem bytes_later {w w' : World} {sv : Value} {zs : List Nat} (h : Bytes w sv zs) (u : Upd NoB w w') : Bytes w' sv zs :=
  h.keep (D := fun k => zs ≠ [] ∧ sv.ownBlock = some k) (u.keepD (fun k hk => ⟨by obtain ⟨c, t, fr, hc⟩ := h.lt hk.1 k hk.2; exact lt_of_block hc, noB k⟩)) (fun hz k hk => ⟨hz, hk⟩)
theorem bytes_nil (w : World) : Bytes w (.slice none 0 0) [] := ⟨fun j => by simp, none, 0, rfl, Nat.le_refl _, .inl rfl⟩
theorem upd_drewN {S : Nat → Prop} {a w : World} (h : Upd S a w) (n : Nat) : Upd S a (w.drewN n) := ⟨h.os, h.tape, h.output, h.size, h.block⟩

end Go.Proofs.Ytjnbnhnkjhnbkaa
