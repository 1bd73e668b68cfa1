/- energy: Levels -/
import Derived.Test.YtaplmdkjoijcgaaDoorOM
namespace Go.Proofs.YtaplmdkjoijcgaaDoor
open Go.RowKit Go.Shelf

def lvE (xs : List Int) : Int := if 32 < xs.length then 2 else if inB 0 72057594037927936 xs then 0 else 6
def lvS (xs : List Int) : List Int := if lvE xs = 0 then xs.map lv else []
set_option maxRecDepth 100000 in
set_option maxHeartbeats 4000000 in
theorem Levels_any (sv : Value) (xs : List Int) (w : World) (h : Ints w sv xs) : Calls Tryd.prog 43 #[sv] w (EInts w (lvS xs) (lvE xs)) := by
  have HI := Lib.hid (within_any sv xs 0 72057594037927936 w h)
  have HEa := Lib.hid (fun w' (u : Upd NoB w w') (hl : xs.length ≤ 1000) (hin : inB 0 72057594037927936 xs = true) => eachLv_any sv xs lv w' (h.later u) hl (fun k x w2 hx _ => levelOf_any x w2 (inB_yes hin hx).1 (inB_yes hin hx).2))
  obtain ⟨a, cap, rfl⟩ := h.form
  by_cases hl : 32 < xs.length
  · have HE := Lib.hid (show lvE xs = 2 from if_pos hl)
    have HS := Lib.hid (show lvS xs = [] from if_neg (by rw [HE.out]; decide))
    rw [HE.out, HS.out]
    generalize xs.length = L at *
    have t1 : decide ((32 : Int) < (L : Int)) = true := decide_eq_true (by omega)
    have t1n : decide (32 < L) = true := decide_eq_true hl
    clear h hl
    go_enter Tryd.func43, Tryd.ntmps43
    go_wp2_with fail
    go_ret2
    exact ⟨none, 0, 0, rfl, World.ownsRow_nil _ _ _ _, Upd.refl _ _⟩
  · have HE0 := Lib.hid (show lvE xs = if inB 0 72057594037927936 xs then 0 else 6 from if_neg hl)
    have HEb := Lib.hid (fun w' (u : Upd NoB w w') => HEa.out w' u (by omega))
    have t1 : decide ((32 : Int) < (xs.length : Int)) = false := decide_eq_false (by omega)
    have t1n : decide (32 < xs.length) = false := decide_eq_false hl
    cases hin : inB 0 72057594037927936 xs with
    | false =>
      have HE := Lib.hid (show lvE xs = 6 by rw [HE0.out, hin]; rfl)
      have HS := Lib.hid (show lvS xs = [] from if_neg (by rw [HE.out]; decide))
      rw [HE.out, HS.out]
      rw [hin] at HI
      generalize xs.length = L at *
      clear h hl hin
      go_enter Tryd.func43, Tryd.ntmps43
      go_wp2_with fail
      refine HI.out.mono ?_
      rintro e w1 ⟨rfl, u1⟩
      have U1 := Lib.hid u1
      clear u1
      go_wp2_with fail
      go_ret2
      exact ⟨none, 0, 0, rfl, World.ownsRow_nil _ _ _ _, U1.out⟩
    | true =>
      have HE := Lib.hid (show lvE xs = 0 by rw [HE0.out, hin]; rfl)
      have HS := Lib.hid (show lvS xs = xs.map lv from if_pos HE.out)
      have HEc := Lib.hid (fun w' (u : Upd NoB w w') => HEb.out w' u hin)
      rw [HE.out, HS.out]
      rw [hin] at HI
      obtain ⟨n2, hn2⟩ : ∃ n, (xs.map lv).length = n := ⟨_, rfl⟩
      have HN2 := Lib.hid hn2
      generalize xs.map lv = ys at *
      generalize xs.length = L at *
      clear h hl hin
      go_enter Tryd.func43, Tryd.ntmps43
      go_wp2_with fail
      refine HI.out.mono ?_
      rintro e w1 ⟨rfl, u1⟩
      have U1 := Lib.hid u1
      clear u1
      go_wp2_with fail
      refine (HEc.out w1 U1.out).mono ?_
      rintro e w2 ⟨v2, rfl, r2, u2⟩
      rw [hn2] at r2
      obtain ⟨a2, c2, rfl⟩ := row_form r2
      have R2 := Lib.hid (row_base r2 U1.out.size); have U2 := Lib.hid (U1.out.then u2)
      clear r2 u2 hn2
      go_wp2_with fail
      go_ret2
      exact ⟨_, _, _, rfl, by rw [HN2.out]; exact R2.out, U2.out⟩
end Go.Proofs.YtaplmdkjoijcgaaDoor
