/- bands: Gather and Scatter -/
import Derived.Test.YtaplmdkjoijcgaaDoorNW
namespace Go.Proofs.YtaplmdkjoijcgaaDoor
open Go.RowKit Go.Shelf

def gaS (c : List Int) (s : Bool) (gs : List Int) : List Int := if dfE c.length s gs = 0 then gaL (plI s gs) c else []
def scS (c : List Int) (s : Bool) (gs : List Int) : List Int := if dfE c.length s gs = 0 then sc0 (plI s gs) c else []
theorem dWG_ne {s : Bool} {gs : List Int} (h : isD s gs = true) : dW s ≠ [] ∧ dG s gs ≠ [] := by
  cases s
  · exact ⟨by decide, by simp [dG]⟩
  · refine ⟨by decide, ?_⟩
    have h1 := (isG_iff (gs := gs) (l := 8)).1 h
    intro e
    have e : gs = [] := e
    subst e
    simp at h1
theorem dLn_bd (s : Bool) : 0 ≤ dLn s ∧ dLn s ≤ 128 := by cases s <;> simp [dLn]
set_option maxRecDepth 100000 in
set_option maxHeartbeats 4000000 in
theorem Gather_any (cv : Value) (c : List Int) (s : Bool) (v : Value) (gs : List Int) (w : World) (hc : Ints w cv c) (h : Ints w v gs) (hg : Gv w) : Calls Tryd.prog 24 #[cv, .bool s, v] w (EInts w (gaS c s gs) (dfE c.length s gs)) := by
  obtain ⟨ca, cc, rfl⟩ := hc.form
  have HD := Lib.hid (divisionFor_any ca c.length cc s v gs w h hg hc.1)
  obtain ⟨a, cap, rfl⟩ := h.form
  by_cases hE : dfE c.length s gs = 0
  · obtain ⟨hd, hn⟩ := dfE_ok hE
    have HS := Lib.hid (show gaS c s gs = gaL (plI s gs) c from if_pos hE)
    have HE := Lib.hid hE
    have BW := Lib.hid (dW_bd s); have BG := Lib.hid (dG_bd hd); have HNe := Lib.hid (dWG_ne hd)
    have HPb := Lib.hid (pcs_bd hd); have HPl := Lib.hid (plI_perm hd).1
    have HLn := Lib.hid (dLn_bd s)
    have HXc := Lib.hid (show ∀ (w1 : World), Upd NoB w w1 → Ints w1 (.slice ca 128 cc) c from fun w1 u => by rw [← hn]; exact hc.later u)
    have HCl := Lib.hid hn
    obtain ⟨L, hL⟩ : ∃ L, gs.length = L := ⟨_, rfl⟩
    rw [hL] at HD ⊢
    rw [HE.out] at HD ⊢
    rw [HS.out]
    rw [hn] at HD ⊢
    clear h hc hg hE hd hn hL
    go_enter Tryd.func24, Tryd.ntmps24
    go_wp2_with fail
    refine HD.out.mono ?_
    intro e w1 hr
    unfold FRes at hr
    rw [if_pos rfl] at hr
    obtain ⟨vw, vg, rfl, iw, ig, u1⟩ := hr
    obtain ⟨aw, cw, rfl⟩ := iw.form
    obtain ⟨ag, cg, rfl⟩ := ig.form
    have IW := Lib.hid iw; have IG := Lib.hid ig; have U1 := Lib.hid u1
    clear iw ig u1
    go_wp2_with fail
    refine (pieces_any _ _ _ _ _ _ _ _).mono ?_
    rintro e w2 ⟨rfl, hw2⟩
    obtain ⟨wq, hwq⟩ : ∃ wq, wq = w1.alloc (.cells #[.int .i64 (dLn s), .slice aw (dW s).length cw, .slice ag (dG s gs).length cg] 52) := ⟨_, rfl⟩
    have uq : Upd NoB w1 wq := by rw [hwq]; exact (Upd.refl _ _).alloc _
    rw [← hwq] at hw2 ⊢
    have u2 : Upd NoB w1 w2 := by rw [hw2]; exact uq.alloc _
    have n2 : w2.heap[wq.heap.size]? = some (.cells #[.int .i64 (dLn s), .slice aw (dW s).length cw, .slice ag (dG s gs).length cg] 52 (0, 0)) := by rw [hw2]; exact heap_alloc_new wq _
    obtain ⟨B, hB⟩ : ∃ B, wq.heap.size = B := ⟨_, rfl⟩
    rw [hB] at n2 ⊢
    have U2 := Lib.hid (U1.out.then u2); have N2 := Lib.hid n2; have HIW := Lib.hid (IW.out.later u2); have HIG := Lib.hid (IG.out.later u2)
    clear uq hw2 hwq u2 n2 hB
    go_wp2_with fail
    refine (gathered_any B (dLn s) aw ag ca (dW s) (dG s gs) c cw cg cc w2 HLn.out BW.out BG.out N2.out HIW.out HIG.out HNe.out.1 HNe.out.2 (HXc.out _ U2.out) HCl.out HPb.out HPl.out).mono ?_
    rintro e w3 ⟨v3, rfl, r3, u3⟩
    obtain ⟨a3, c3, rfl⟩ := row_form r3
    have R3 := Lib.hid (row_base r3 U2.out.size); have U3 := Lib.hid (U2.out.then u3)
    clear r3 u3
    go_wp2_with fail
    go_ret2
    exact ⟨_, _, _, rfl, R3.out, U3.out⟩
  · have HS := Lib.hid (show gaS c s gs = [] from if_neg hE)
    have HE := Lib.hid hE
    have t1 : (dfE c.length s gs != 0) = true := by rw [bne_iff_ne]; exact hE
    rw [HS.out]
    obtain ⟨L, hL⟩ : ∃ L, gs.length = L := ⟨_, rfl⟩
    rw [hL] at HD ⊢
    generalize dfE c.length s gs = E at *
    clear h hc hg hE hL
    go_enter Tryd.func24, Tryd.ntmps24
    go_wp2_with fail
    refine HD.out.mono ?_
    intro e w1 hr
    unfold FRes at hr
    rw [if_neg HE.out] at hr
    obtain ⟨rfl, u1⟩ := hr
    have U1 := Lib.hid u1
    clear u1
    go_wp2_with fail
    go_ret2
    exact ⟨none, 0, 0, rfl, World.ownsRow_nil _ _ _ _, U1.out.alloc _⟩
set_option maxRecDepth 100000 in
set_option maxHeartbeats 4000000 in
theorem Scatter_any (cv : Value) (c : List Int) (s : Bool) (v : Value) (gs : List Int) (w : World) (hc : Ints w cv c) (h : Ints w v gs) (hg : Gv w) : Calls Tryd.prog 26 #[cv, .bool s, v] w (EInts w (scS c s gs) (dfE c.length s gs)) := by
  obtain ⟨ca, cc, rfl⟩ := hc.form
  have HD := Lib.hid (divisionFor_any ca c.length cc s v gs w h hg hc.1)
  obtain ⟨a, cap, rfl⟩ := h.form
  by_cases hE : dfE c.length s gs = 0
  · obtain ⟨hd, hn⟩ := dfE_ok hE
    have HS := Lib.hid (show scS c s gs = sc0 (plI s gs) c from if_pos hE)
    have HE := Lib.hid hE
    have BW := Lib.hid (dW_bd s); have BG := Lib.hid (dG_bd hd); have HNe := Lib.hid (dWG_ne hd)
    have HPb := Lib.hid (pcs_bd hd); have HPl := Lib.hid (plI_perm hd).1
    have HLn := Lib.hid (dLn_bd s)
    have HXc := Lib.hid (show ∀ (w1 : World), Upd NoB w w1 → Ints w1 (.slice ca 128 cc) c from fun w1 u => by rw [← hn]; exact hc.later u)
    have HCl := Lib.hid hn
    obtain ⟨L, hL⟩ : ∃ L, gs.length = L := ⟨_, rfl⟩
    rw [hL] at HD ⊢
    rw [HE.out] at HD ⊢
    rw [HS.out]
    rw [hn] at HD ⊢
    clear h hc hg hE hd hn hL
    go_enter Tryd.func26, Tryd.ntmps26
    go_wp2_with fail
    refine HD.out.mono ?_
    intro e w1 hr
    unfold FRes at hr
    rw [if_pos rfl] at hr
    obtain ⟨vw, vg, rfl, iw, ig, u1⟩ := hr
    obtain ⟨aw, cw, rfl⟩ := iw.form
    obtain ⟨ag, cg, rfl⟩ := ig.form
    have IW := Lib.hid iw; have IG := Lib.hid ig; have U1 := Lib.hid u1
    clear iw ig u1
    go_wp2_with fail
    refine (pieces_any _ _ _ _ _ _ _ _).mono ?_
    rintro e w2 ⟨rfl, hw2⟩
    obtain ⟨wq, hwq⟩ : ∃ wq, wq = w1.alloc (.cells #[.int .i64 (dLn s), .slice aw (dW s).length cw, .slice ag (dG s gs).length cg] 52) := ⟨_, rfl⟩
    have uq : Upd NoB w1 wq := by rw [hwq]; exact (Upd.refl _ _).alloc _
    rw [← hwq] at hw2 ⊢
    have u2 : Upd NoB w1 w2 := by rw [hw2]; exact uq.alloc _
    have n2 : w2.heap[wq.heap.size]? = some (.cells #[.int .i64 (dLn s), .slice aw (dW s).length cw, .slice ag (dG s gs).length cg] 52 (0, 0)) := by rw [hw2]; exact heap_alloc_new wq _
    obtain ⟨B, hB⟩ : ∃ B, wq.heap.size = B := ⟨_, rfl⟩
    rw [hB] at n2 ⊢
    have U2 := Lib.hid (U1.out.then u2); have N2 := Lib.hid n2; have HIW := Lib.hid (IW.out.later u2); have HIG := Lib.hid (IG.out.later u2)
    clear uq hw2 hwq u2 n2 hB
    go_wp2_with fail
    refine (scattered_any B (dLn s) aw ag ca (dW s) (dG s gs) c cw cg cc w2 HLn.out BW.out BG.out N2.out HIW.out HIG.out HNe.out.1 HNe.out.2 (HXc.out _ U2.out) HCl.out HPb.out HPl.out).mono ?_
    rintro e w3 ⟨v3, rfl, r3, u3⟩
    obtain ⟨a3, c3, rfl⟩ := row_form r3
    have R3 := Lib.hid (row_base r3 U2.out.size); have U3 := Lib.hid (U2.out.then u3)
    clear r3 u3
    go_wp2_with fail
    go_ret2
    exact ⟨_, _, _, rfl, R3.out, U3.out⟩
  · have HS := Lib.hid (show scS c s gs = [] from if_neg hE)
    have HE := Lib.hid hE
    have t1 : (dfE c.length s gs != 0) = true := by rw [bne_iff_ne]; exact hE
    rw [HS.out]
    obtain ⟨L, hL⟩ : ∃ L, gs.length = L := ⟨_, rfl⟩
    rw [hL] at HD ⊢
    generalize dfE c.length s gs = E at *
    clear h hc hg hE hL
    go_enter Tryd.func26, Tryd.ntmps26
    go_wp2_with fail
    refine HD.out.mono ?_
    intro e w1 hr
    unfold FRes at hr
    rw [if_neg HE.out] at hr
    obtain ⟨rfl, u1⟩ := hr
    have U1 := Lib.hid u1
    clear u1
    go_wp2_with fail
    go_ret2
    exact ⟨none, 0, 0, rfl, World.ownsRow_nil _ _ _ _, U1.out.alloc _⟩
end Go.Proofs.YtaplmdkjoijcgaaDoor
