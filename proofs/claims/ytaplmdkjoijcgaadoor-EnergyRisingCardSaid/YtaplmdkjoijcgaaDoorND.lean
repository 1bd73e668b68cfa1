/- bands: Widths and Count of the program; Is of the reference -/
import Derived.Test.YtaplmdkjoijcgaaDoorNC
namespace Go.Proofs.YtaplmdkjoijcgaaDoor
open Go.RowKit Go.Shelf

def EInts (w : World) (xs : List Int) (E : Int) (e : Ending) (w' : World) : Prop := ∃ a n c, e = .returned (.tuple #[.slice a n c, .int .i64 E]) ∧ w'.ownsRow w.heap.size 3 1 (.slice a n c) xs.length (i64s xs) ∧ Upd NoB w w'
def dE (s : Bool) (gs : List Int) : Int := if isD s gs then 0 else 1
def wdS (s : Bool) (gs : List Int) : List Int := if isD s gs then bandsL s gs else []
theorem dW_bd (s : Bool) : (dW s).length ≤ 15 ∧ ∀ x ∈ dW s, 0 ≤ x ∧ x ≤ 128 := by
  cases s
  · exact ⟨by decide, by decide⟩
  · exact ⟨by decide, by decide⟩
theorem dG_bd {s : Bool} {gs : List Int} (h : isD s gs = true) : (dG s gs).length ≤ 8 ∧ ∀ x ∈ dG s gs, 0 ≤ x ∧ x ≤ 8 := by
  cases s
  · exact ⟨by show [1].length ≤ 8; decide, by show ∀ x ∈ [(1 : Int)], 0 ≤ x ∧ x ≤ 8; decide⟩
  · have h1 := isG_bd (gs := gs) h
    exact ⟨h1.1, fun x hx => by have := h1.2 x hx; omega⟩
set_option maxRecDepth 100000 in
set_option maxHeartbeats 2000000 in
theorem Widths_any (s : Bool) (v : Value) (gs : List Int) (w : World) (h : Ints w v gs) (hg : Gv w) : Calls Tryd.prog 17 #[.bool s, v] w (EInts w (wdS s gs) (dE s gs)) := by
  have HD := Lib.hid (divisionOf_any s v gs w h hg)
  obtain ⟨a, cap, rfl⟩ := h.form
  cases hd : isD s gs with
  | true =>
    have HS := Lib.hid (show wdS s gs = bandsL s gs from if_pos hd)
    have HE := Lib.hid (show dE s gs = 0 from if_pos hd)
    have HBg := Lib.hid (dG_bd hd)
    have HDd := Lib.hid hd
    rw [HS.out, HE.out]
    obtain ⟨L, hL⟩ : ∃ L, gs.length = L := ⟨_, rfl⟩
    rw [hL] at HD ⊢
    clear h hg hd hL
    go_enter Tryd.func17, Tryd.ntmps17
    go_wp2_with fail
    refine HD.out.mono ?_
    intro e w1 hr
    unfold DRes at hr
    rw [if_pos HDd.out] at hr
    obtain ⟨vw, vg, rfl, iw, ig, u1⟩ := hr
    obtain ⟨aw, cw, rfl⟩ := iw.form
    obtain ⟨ag, cg, rfl⟩ := ig.form
    have IW := Lib.hid iw; have IG := Lib.hid ig; have U1 := Lib.hid u1
    clear iw ig u1
    go_wp2_with fail
    refine (bandWidths_any (dLn s) _ _ (dW s) (dG s gs) _ (IW.out.later ((Upd.refl NoB w1).alloc _)) (IG.out.later ((Upd.refl NoB w1).alloc _)) (dW_bd s) HBg.out).mono ?_
    rintro e w2 ⟨v2, rfl, r2, u2⟩
    obtain ⟨a2, c2, rfl⟩ := row_form r2
    have R2 := Lib.hid (row_base r2 (Nat.le_trans U1.out.size ((Upd.refl NoB w1).alloc _).size)); have U2 := Lib.hid (U1.out.then (((Upd.refl NoB w1).alloc _).then u2))
    clear r2 u2
    go_wp2_with fail
    go_ret2
    exact ⟨_, _, _, rfl, R2.out, U2.out⟩
  | false =>
    have HS := Lib.hid (show wdS s gs = [] from if_neg (by rw [hd]; simp))
    have HE := Lib.hid (show dE s gs = 1 from if_neg (by rw [hd]; simp))
    have HDd := Lib.hid (show ¬ isD s gs = true by rw [hd]; simp)
    rw [HS.out, HE.out]
    obtain ⟨L, hL⟩ : ∃ L, gs.length = L := ⟨_, rfl⟩
    rw [hL] at HD ⊢
    clear h hg hd hL
    go_enter Tryd.func17, Tryd.ntmps17
    go_wp2_with fail
    refine HD.out.mono ?_
    intro e w1 hr
    unfold DRes at hr
    rw [if_neg HDd.out] at hr
    obtain ⟨rfl, u1⟩ := hr
    have U1 := Lib.hid u1
    clear u1
    go_wp2_with fail
    go_ret2
    exact ⟨none, 0, 0, rfl, World.ownsRow_nil _ _ _ _, U1.out.alloc _⟩
def ctN (s : Bool) (gs : List Int) : Nat := (dG s gs).length * (dW s).length
theorem bwL_length (ws : List Int) : ∀ gs : List Int, (bwL ws gs).length = gs.length * ws.length
  | [] => by simp [bwL]
  | g :: t => by
    have ih := bwL_length ws t
    unfold bwL at ih ⊢
    rw [List.flatMap_cons, List.length_append, List.length_map, ih, List.length_cons, Nat.add_mul]; omega
theorem ctN_bands (s : Bool) (gs : List Int) : (bandsL s gs).length = ctN s gs := bwL_length _ _
def ctS (s : Bool) (gs : List Int) : Int := if isD s gs then (ctN s gs : Nat) else 0
set_option maxRecDepth 100000 in
set_option maxHeartbeats 2000000 in
theorem Count_any (s : Bool) (v : Value) (gs : List Int) (w : World) (h : Ints w v gs) (hg : Gv w) : Calls Tryd.prog 21 #[.bool s, v] w fun e w' => e = .returned (.tuple #[.int .i64 (ctS s gs), .int .i64 (dE s gs)]) ∧ Upd NoB w w' := by
  have HD := Lib.hid (divisionOf_any s v gs w h hg)
  obtain ⟨a, cap, rfl⟩ := h.form
  cases hd : isD s gs with
  | true =>
    have HS := Lib.hid (show ctS s gs = (ctN s gs : Nat) from if_pos hd)
    have HE := Lib.hid (show dE s gs = 0 from if_pos hd)
    have HBg := Lib.hid (dG_bd hd)
    have HDd := Lib.hid hd
    rw [HS.out, HE.out]
    obtain ⟨L, hL⟩ : ∃ L, gs.length = L := ⟨_, rfl⟩
    rw [hL] at HD ⊢
    clear h hg hd hL
    go_enter Tryd.func21, Tryd.ntmps21
    go_wp2_with fail
    refine HD.out.mono ?_
    intro e w1 hr
    unfold DRes at hr
    rw [if_pos HDd.out] at hr
    obtain ⟨vw, vg, rfl, iw, ig, u1⟩ := hr
    obtain ⟨aw, cw, rfl⟩ := iw.form
    obtain ⟨ag, cg, rfl⟩ := ig.form
    have U1 := Lib.hid u1
    clear iw ig u1
    go_wp2_with fail
    refine (count_any _ _ _ (dW s).length (dG s gs).length _ _ _ (by have := (dW_bd s).1; omega) (by have := HBg.out.1; omega)).mono ?_
    rintro e w2 ⟨rfl, u2⟩
    have U2 := Lib.hid (U1.out.then (((Upd.refl NoB w1).alloc _).then u2))
    clear u2
    go_wp2_with fail
    go_ret2
    exact ⟨by unfold ctN; rw [Int.natCast_mul]; rfl, U2.out⟩
  | false =>
    have HS := Lib.hid (show ctS s gs = 0 from if_neg (by rw [hd]; simp))
    have HE := Lib.hid (show dE s gs = 1 from if_neg (by rw [hd]; simp))
    have HDd := Lib.hid (show ¬ isD s gs = true by rw [hd]; simp)
    rw [HS.out, HE.out]
    obtain ⟨L, hL⟩ : ∃ L, gs.length = L := ⟨_, rfl⟩
    rw [hL] at HD ⊢
    clear h hg hd hL
    go_enter Tryd.func21, Tryd.ntmps21
    go_wp2_with fail
    refine HD.out.mono ?_
    intro e w1 hr
    unfold DRes at hr
    rw [if_neg HDd.out] at hr
    obtain ⟨rfl, u1⟩ := hr
    have U1 := Lib.hid u1
    clear u1
    go_wp2_with fail
    go_ret2
    exact ⟨rfl, U1.out.alloc _⟩
end Go.Proofs.YtaplmdkjoijcgaaDoor
