/- the reference's writer: Align, Len, Bytes -/
import Derived.Test.YtjnbnhnkjhnbkaaVG
namespace Go.Proofs.Ytjnbnhnkjhnbkaa
open Go.RowKit Go.Shelf

theorem VPost.next {b : Nat} {v0 v1 : Value} {w w1 w2 : World} {l : List Nat} (u : Upd (wfoot b v0) w w1) (n1 : newOr w v0 v1) (h : VPost b v1 w1 l w2) : VPost b v0 w l w2 := by
  obtain ⟨v2, h1, h2, h3⟩ := h
  refine ⟨v2, h1, u.trans h2 ?_, n1.trans h3 u.size⟩
  rintro i hi (rfl | hi')
  · exact .inl rfl
  · rcases n1 i hi' with h | h
    · exact .inr h
    · omega
theorem numBits_same {x : Int} (h0 : 0 ≤ x) (h1 : x ≤ 1) (n : Nat) : numBits (-x) n = List.replicate n x.toNat := by
  refine List.ext_getElem (by simp [numBits_length]) fun i h1' h2' => ?_
  simp only [numBits_map, List.getElem_map, List.getElem_range, List.getElem_replicate, numF]
  rcases (show x = 0 ∨ x = 1 by omega) with rfl | rfl
  · simp
  · have : (-1 : Int) / 2 ^ (n - 1 - i) = -1 := ediv_neg_one (by decide) (by have := Int.pow_pos (n := 2) (m := n - 1 - i) (by decide); omega)
    rw [this]; rfl
theorem vlen_any (b : Nat) (l : List Nat) (v : Value) (w : World) (h : VAt w b l v) :
    Calls Try.prog 29 #[.pointer (some ⟨b, 0, none⟩)] w fun e w' => e = .returned (.int .i64 (l.length : Nat)) ∧ w = w' := by
  obtain ⟨a, c, rfl⟩ := row8_slice h.2.1
  have c0 : w.cell? ⟨b, 0, none⟩ = some (.slice a l.length c) := blk_cell h.1 0
  clear h
  go_enter Try.func29, Try.ntmps29
  go_wp2
  go_ret
  exact ⟨rfl, rfl⟩
theorem vbytes_any (b : Nat) (l : List Nat) (v : Value) (w : World) (h : VAt w b l v) (hl : l.length ≤ 1048576) :
    Calls Try.prog 32 #[.pointer (some ⟨b, 0, none⟩)] w fun e w' => ∃ v', e = .returned v' ∧ Row8 w' v' (pack l) ∧ Upd NoB w w' ∧ newB w v' := by
  obtain ⟨a, c, rfl⟩ := row8_slice h.2.1
  have c0 : w.cell? ⟨b, 0, none⟩ = some (.slice a l.length c) := blk_cell h.1 0
  have H := Lib.hid h; clear h
  go_enter Try.func32, Try.ntmps32
  go_wp2_with fail
  refine (pack_any _ l w H.out.2.1.bytes H.out.2.2 (by omega)).mono ?_
  rintro e w2 ⟨v2, rfl, r2, u2, n2⟩
  have R2 := Lib.hid r2; have U2 := Lib.hid u2; have N2 := Lib.hid n2
  clear r2 u2 n2
  go_wp2_with fail
  go_ret
  exact ⟨_, rfl, R2.out, U2.out, N2.out⟩
def lenAt (b : Nat) (w : World) : Nat := match w.cell? ⟨b, 0, none⟩ with | some (.slice _ n _) => n | _ => 0
theorem lenAt_eq {w : World} {b : Nat} {l : List Nat} {v : Value} (h : VAt w b l v) : lenAt b w = l.length := by
  obtain ⟨a, c, rfl⟩ := row8_slice h.2.1
  have c0 : w.cell? ⟨b, 0, none⟩ = some (.slice a l.length c) := blk_cell h.1 0
  unfold lenAt; rw [c0]
end Go.Proofs.Ytjnbnhnkjhnbkaa
