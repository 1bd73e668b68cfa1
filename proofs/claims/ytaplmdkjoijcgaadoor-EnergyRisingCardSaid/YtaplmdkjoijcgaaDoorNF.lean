/- bands: Widths and Count of the reference -/
import Derived.Test.YtaplmdkjoijcgaaDoorNE
namespace Go.Proofs.YtaplmdkjoijcgaaDoor
open Go.RowKit Go.Shelf

set_option maxRecDepth 100000 in
set_option maxHeartbeats 2000000 in
theorem rWidths_any (s : Bool) (v : Value) (gs : List Int) (w : World) (h : Ints w v gs) : Calls Tryd.prog 18 #[.bool s, v] w (EInts w (wdS s gs) (dE s gs)) := by
  have HI := Lib.hid (rIs_any s v gs w h)
  cases hd : isD s gs with
  | true =>
    have HS := Lib.hid (show wdS s gs = bandsL s gs from if_pos hd)
    have HE := Lib.hid (show dE s gs = 0 from if_pos hd)
    have HB := Lib.hid (rBands_any s v gs w h hd)
    obtain ⟨a, cap, rfl⟩ := h.form
    rw [hd] at HI
    rw [HS.out, HE.out]
    obtain ⟨L, hL⟩ : ∃ L, gs.length = L := ⟨_, rfl⟩
    rw [hL] at HI HB ⊢
    clear h hd hL
    go_enter Tryd.func18, Tryd.ntmps18
    go_wp2_with fail
    refine HI.out.mono ?_
    rintro e w' ⟨rfl, rfl⟩
    go_wp2_with fail
    refine HB.out.mono ?_
    rintro e w2 ⟨v2, rfl, r2, u2⟩
    obtain ⟨a2, c2, rfl⟩ := row_form r2
    have R2 := Lib.hid r2; have U2 := Lib.hid u2
    clear r2 u2
    go_wp2_with fail
    go_ret2
    exact ⟨_, _, _, rfl, R2.out, U2.out⟩
  | false =>
    have HS := Lib.hid (show wdS s gs = [] from if_neg (by rw [hd]; simp))
    have HE := Lib.hid (show dE s gs = 1 from if_neg (by rw [hd]; simp))
    obtain ⟨a, cap, rfl⟩ := h.form
    rw [hd] at HI
    rw [HS.out, HE.out]
    obtain ⟨L, hL⟩ : ∃ L, gs.length = L := ⟨_, rfl⟩
    rw [hL] at HI ⊢
    clear h hd hL
    go_enter Tryd.func18, Tryd.ntmps18
    go_wp2_with fail
    refine HI.out.mono ?_
    rintro e w' ⟨rfl, rfl⟩
    go_wp2_with fail
    go_ret2
    exact ⟨none, 0, 0, rfl, World.ownsRow_nil _ _ _ _, Upd.refl _ _⟩
set_option maxRecDepth 100000 in
set_option maxHeartbeats 2000000 in
theorem rCount_any (s : Bool) (v : Value) (gs : List Int) (w : World) (h : Ints w v gs) : Calls Tryd.prog 22 #[.bool s, v] w fun e w' => e = .returned (.tuple #[.int .i64 (ctS s gs), .int .i64 (dE s gs)]) ∧ Upd NoB w w' := by
  have HI := Lib.hid (rIs_any s v gs w h)
  cases hd : isD s gs with
  | true =>
    have HS := Lib.hid (show ctS s gs = (ctN s gs : Nat) from if_pos hd)
    have HE := Lib.hid (show dE s gs = 0 from if_pos hd)
    have HB := Lib.hid (rBands_any s v gs w h hd)
    have HC := Lib.hid (ctN_bands s gs)
    obtain ⟨a, cap, rfl⟩ := h.form
    rw [hd] at HI
    rw [HS.out, HE.out]
    obtain ⟨L, hL⟩ : ∃ L, gs.length = L := ⟨_, rfl⟩
    rw [hL] at HI HB ⊢
    clear h hd hL
    go_enter Tryd.func22, Tryd.ntmps22
    go_wp2_with fail
    refine HI.out.mono ?_
    rintro e w' ⟨rfl, rfl⟩
    go_wp2_with fail
    refine HB.out.mono ?_
    rintro e w2 ⟨v2, rfl, r2, u2⟩
    obtain ⟨a2, c2, rfl⟩ := row_form r2
    have U2 := Lib.hid u2
    clear r2 u2
    rw [HC.out]
    go_wp2_with fail
    go_ret2
    exact ⟨rfl, U2.out⟩
  | false =>
    have HS := Lib.hid (show ctS s gs = 0 from if_neg (by rw [hd]; simp))
    have HE := Lib.hid (show dE s gs = 1 from if_neg (by rw [hd]; simp))
    obtain ⟨a, cap, rfl⟩ := h.form
    rw [hd] at HI
    rw [HS.out, HE.out]
    obtain ⟨L, hL⟩ : ∃ L, gs.length = L := ⟨_, rfl⟩
    rw [hL] at HI ⊢
    clear h hd hL
    go_enter Tryd.func22, Tryd.ntmps22
    go_wp2_with fail
    refine HI.out.mono ?_
    rintro e w' ⟨rfl, rfl⟩
    go_wp2_with fail
    go_ret2
    exact ⟨rfl, Upd.refl _ _⟩
end Go.Proofs.YtaplmdkjoijcgaaDoor
