/- stereo: Gains, Cross -/
import Derived.Test.YtopjjdfnnjgnlaaUJ
import Derived.Test.YtopjjdfnnjgnlaaUL
namespace Go.Proofs.Ytopjjdfnnjgnlaa
open Go.RowKit Go.Shelf

def EInts (w : World) (xs : List Int) (E : Int) (e : Ending) (w' : World) : Prop := ∃ a n c, e = .returned (.tuple #[.slice a n c, .int .i64 E]) ∧ w'.ownsRow w.heap.size 3 1 (.slice a n c) xs.length (i64s xs) ∧ Upd NoB w w'
theorem EInts.open {w w' : World} {xs : List Int} {E : Int} {e : Ending} (h : EInts w xs E e w') (hl : xs.length ≤ 1000000) : ∃ a c, e = .returned (.tuple #[.slice a xs.length c, .int .i64 E]) ∧ Ints w' (.slice a xs.length c) xs ∧ Upd NoB w w' := by
  obtain ⟨a, n, c, rfl, r, u⟩ := h
  obtain ⟨a', c', e⟩ := row_form r
  injection e with e1 e2 e3
  subst e1; subst e2; subst e3
  exact ⟨_, _, rfl, Ints.ofRow r (by omega), u⟩
def gnS (l r ws : List Int) : List Int := if chE l r ws 2097152 = 0 then gnL l r ws else []
def crS (l r ws : List Int) : List Int := if chE l r ws 2097152 = 0 then crL l r ws else []
theorem gnL_len (l r ws : List Int) : (gnL l r ws).length = ws.length := rmap_len _ _
theorem crL_len (l r ws : List Int) : (crL l r ws).length = ws.length := rmap_len _ _
set_option maxRecDepth 100000 in
set_option maxHeartbeats 4000000 in
theorem Gains_any (lv rv wv : Value) (l r ws : List Int) (w : World) (hl : Ints w lv l) (hr : Ints w rv r) (hw : Ints w wv ws) : Calls Try.prog 20 #[lv, rv, wv] w (EInts w (gnS l r ws) (chE l r ws 2097152)) := by
  have HC := Lib.hid (channelsOf_any lv rv wv l r ws 2097152 w (by decide) hl hr hw)
  have HWs := Lib.hid hw
  by_cases hE : chE l r ws 2097152 = 0
  · obtain ⟨h1, h2, h3, h4, h5⟩ := chE_ok hE
    have HT := Lib.hid (fun g c V (u : Upd NoB w V) (hp : PrsA V g 0 (P2 l r) 128) (hc : 128 ≤ c) => toldG_any g c wv ws (P2 l r) V h1 (hw.later u) hp hc (P2_in (by decide) h4 h5))
    have HS := Lib.hid (show gnS l r ws = (List.range ws.length).map fun k => gnF (fun t => P2 l r (psN ws k + t)) (wdN ws k) from if_pos hE)
    rw [hE] at HC ⊢
    rw [HS.out]
    obtain ⟨A, hA⟩ : ∃ A, ((List.range ws.length).map fun k => gnF (fun t => P2 l r (psN ws k + t)) (wdN ws k)) = A := ⟨_, rfl⟩
    rw [hA] at HT ⊢
    obtain ⟨la, lc, rfl⟩ := hl.form
    obtain ⟨ra, rc, rfl⟩ := hr.form
    obtain ⟨wa, wc, rfl⟩ := hw.form
    generalize l.length = L at *
    generalize r.length = R at *
    obtain ⟨N, hN⟩ : ∃ N, ws.length = N := ⟨_, rfl⟩
    rw [hN] at HC HT ⊢
    clear hl hr hw hE h1 h2 h3 h4 h5 hA hN
    go_enter Try.func20, Try.ntmps20
    go_wp2_with fail
    refine HC.out.mono ?_
    rintro e w2 ⟨u2, hr⟩
    rw [if_pos rfl] at hr
    obtain ⟨g, c, rfl, hc, hp, _⟩ := hr
    have u3 : Upd NoB w2 (w2.alloc (.cells #[.slice (some ⟨g, 0, none⟩) 128 c, .slice wa N wc] 51)) := (Upd.refl _ _).alloc _
    have HT2 := Lib.hid (HT.out g c _ (u2.then u3) (hp.later u3) hc)
    have U3 := Lib.hid (u2.then u3)
    have d0 := cell_of_block0 (heap_alloc_new w2 (.cells #[.slice (some ⟨g, 0, none⟩) 128 c, .slice wa N wc] 51))
    have d1 := cell_of_block1 (heap_alloc_new w2 (.cells #[.slice (some ⟨g, 0, none⟩) 128 c, .slice wa N wc] 51))
    clear u2 u3 hp hc HT
    go_wp2_with fail
    refine HT2.out.mono ?_
    rintro e w4 ⟨v4, rfl, r4, u4⟩
    obtain ⟨a4, c4, rfl⟩ := row_form r4
    have R4 := Lib.hid (row_base r4 U3.out.size); have U4 := Lib.hid (U3.out.then u4)
    clear r4 u4 d0 d1
    go_wp2_with fail
    go_ret2
    exact ⟨_, _, _, rfl, R4.out, U4.out⟩
  · have HS := Lib.hid (show gnS l r ws = [] from if_neg hE)
    rw [HS.out]
    generalize chE l r ws 2097152 = E at *
    obtain ⟨la, lc, rfl⟩ := hl.form
    obtain ⟨ra, rc, rfl⟩ := hr.form
    obtain ⟨wa, wc, rfl⟩ := hw.form
    have HEn := Lib.hid hE
    have t1 : (E != 0) = true := bne_iff_ne.2 hE
    generalize l.length = L at *
    generalize r.length = R at *
    generalize ws.length = N at *
    clear hl hr hw hE
    go_enter Try.func20, Try.ntmps20
    go_wp2_with fail
    refine HC.out.mono ?_
    rintro e w2 ⟨u2, hr⟩
    rw [if_neg HEn.out] at hr
    subst hr
    have U2 := Lib.hid u2
    clear u2
    go_wp2_with fail
    go_ret2
    exact ⟨none, 0, 0, rfl, World.ownsRow_nil _ _ _ _, U2.out.alloc _⟩
set_option maxRecDepth 100000 in
set_option maxHeartbeats 4000000 in
theorem Cross_any (lv rv wv : Value) (l r ws : List Int) (w : World) (hl : Ints w lv l) (hr : Ints w rv r) (hw : Ints w wv ws) : Calls Try.prog 22 #[lv, rv, wv] w (EInts w (crS l r ws) (chE l r ws 2097152)) := by
  have HC := Lib.hid (channelsOf_any lv rv wv l r ws 2097152 w (by decide) hl hr hw)
  have HWs := Lib.hid hw
  by_cases hE : chE l r ws 2097152 = 0
  · obtain ⟨h1, h2, h3, h4, h5⟩ := chE_ok hE
    have HT := Lib.hid (fun g c V (u : Upd NoB w V) (hp : PrsA V g 0 (P2 l r) 128) (hc : 128 ≤ c) => toldC_any g c wv ws (P2 l r) V h1 (hw.later u) hp hc (P2_in (by decide) h4 h5))
    have HS := Lib.hid (show crS l r ws = (List.range ws.length).map fun k => crV (fun t => P2 l r (psN ws k + t)) (wdN ws k) from if_pos hE)
    rw [hE] at HC ⊢
    rw [HS.out]
    obtain ⟨A, hA⟩ : ∃ A, ((List.range ws.length).map fun k => crV (fun t => P2 l r (psN ws k + t)) (wdN ws k)) = A := ⟨_, rfl⟩
    rw [hA] at HT ⊢
    obtain ⟨la, lc, rfl⟩ := hl.form
    obtain ⟨ra, rc, rfl⟩ := hr.form
    obtain ⟨wa, wc, rfl⟩ := hw.form
    generalize l.length = L at *
    generalize r.length = R at *
    obtain ⟨N, hN⟩ : ∃ N, ws.length = N := ⟨_, rfl⟩
    rw [hN] at HC HT ⊢
    clear hl hr hw hE h1 h2 h3 h4 h5 hA hN
    go_enter Try.func22, Try.ntmps22
    go_wp2_with fail
    refine HC.out.mono ?_
    rintro e w2 ⟨u2, hr⟩
    rw [if_pos rfl] at hr
    obtain ⟨g, c, rfl, hc, hp, _⟩ := hr
    have u3 : Upd NoB w2 (w2.alloc (.cells #[.slice (some ⟨g, 0, none⟩) 128 c, .slice wa N wc] 51)) := (Upd.refl _ _).alloc _
    have HT2 := Lib.hid (HT.out g c _ (u2.then u3) (hp.later u3) hc)
    have U3 := Lib.hid (u2.then u3)
    have d0 := cell_of_block0 (heap_alloc_new w2 (.cells #[.slice (some ⟨g, 0, none⟩) 128 c, .slice wa N wc] 51))
    have d1 := cell_of_block1 (heap_alloc_new w2 (.cells #[.slice (some ⟨g, 0, none⟩) 128 c, .slice wa N wc] 51))
    clear u2 u3 hp hc HT
    go_wp2_with fail
    refine HT2.out.mono ?_
    rintro e w4 ⟨v4, rfl, r4, u4⟩
    obtain ⟨a4, c4, rfl⟩ := row_form r4
    have R4 := Lib.hid (row_base r4 U3.out.size); have U4 := Lib.hid (U3.out.then u4)
    clear r4 u4 d0 d1
    go_wp2_with fail
    go_ret2
    exact ⟨_, _, _, rfl, R4.out, U4.out⟩
  · have HS := Lib.hid (show crS l r ws = [] from if_neg hE)
    rw [HS.out]
    generalize chE l r ws 2097152 = E at *
    obtain ⟨la, lc, rfl⟩ := hl.form
    obtain ⟨ra, rc, rfl⟩ := hr.form
    obtain ⟨wa, wc, rfl⟩ := hw.form
    have HEn := Lib.hid hE
    have t1 : (E != 0) = true := bne_iff_ne.2 hE
    generalize l.length = L at *
    generalize r.length = R at *
    generalize ws.length = N at *
    clear hl hr hw hE
    go_enter Try.func22, Try.ntmps22
    go_wp2_with fail
    refine HC.out.mono ?_
    rintro e w2 ⟨u2, hr⟩
    rw [if_neg HEn.out] at hr
    subst hr
    have U2 := Lib.hid u2
    clear u2
    go_wp2_with fail
    go_ret2
    exact ⟨none, 0, 0, rfl, World.ownsRow_nil _ _ _ _, U2.out.alloc _⟩
end Go.Proofs.Ytopjjdfnnjgnlaa
