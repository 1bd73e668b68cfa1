/- energy: Energies, Total and Tones | energy: Levels -/
import Derived.Test.YtgdndcbcdoogpaaDoorGk
namespace Go.Proofs.YtgdndcbcdoogpaaDoor
open Go.RowKit Go.Shelf

theorem spE_ok {c : List Int} {s : Bool} {gs : List Int} (h : spE c s gs = 0) : isD s gs = true ∧ c.length = 128 ∧ CoB c := by
  unfold spE at h
  by_cases h1 : dfE c.length s gs = 0
  · rw [if_pos h1] at h
    obtain ⟨h2, h3⟩ := dfE_ok h1
    refine ⟨h2, h3, coB_of ?_⟩
    cases e : inB (-2097152) 2097152 c with
    | true => rfl
    | false => rw [e] at h; simp at h
  · rw [if_neg h1] at h; exact absurd h h1
theorem coB_sub {l : List Int} {P : Int → Prop} (h : ∀ x ∈ l, P x) {ws : List Int} {k : Nat} : ∀ x ∈ ptA ws l k, P x := fun x hx => h x (List.mem_of_mem_drop (List.mem_of_mem_take hx))
theorem gaL_in {ps c : List Int} (h : CoB c) : ∀ x ∈ gaL ps c, -2097152 ≤ x ∧ x ≤ 2097152 := by
  intro x hx
  unfold gaL at hx
  rw [List.mem_map] at hx
  obtain ⟨p, _, rfl⟩ := hx
  rw [List.getD_eq_getElem?_getD]
  cases e : c[p.toNat]? with
  | none => exact ⟨by simp, by simp⟩
  | some y => exact h _ _ e
theorem bands_one {s : Bool} {gs : List Int} (hd : isD s gs = true) : (∀ x ∈ bandsL s gs, 1 ≤ x ∧ x ≤ 128) ∧ spT (bandsL s gs) (ctN s gs) = 128 := by
  have := by_divs (p := fun s gs => decide ((bandsL s gs).all (fun x => decide (1 ≤ x ∧ x ≤ 128)) = true ∧ spT (bandsL s gs) (ctN s gs) = 128)) (by decide +kernel) hd
  have := of_decide_eq_true this
  exact ⟨fun x hx => of_decide_eq_true (List.all_eq_true.1 this.1 x hx), this.2⟩
/-- what is known of the parts -/
theorem cutL_ok {c : List Int} {s : Bool} {gs : List Int} (hd : isD s gs = true) (hc : CoB c) {k : Nat} {xs : List Int} (h : (cutL c s gs)[k]? = some xs) : CoB xs ∧ 0 < xs.length ∧ xs.length ≤ 300 := by
  unfold cutL at h
  have hk := (List.getElem?_eq_some_iff.1 h).1
  rw [ptL_len] at hk
  rw [ptL_get hk] at h
  injection h with h
  subst h
  obtain ⟨b1, b2⟩ := bands_one hd
  obtain ⟨y, hy⟩ : ∃ y, (bandsL s gs)[k]? = some y := ⟨_, List.getElem?_eq_getElem hk⟩
  obtain ⟨y1, y8⟩ := b1 y (List.mem_of_getElem? hy)
  have hgd : (bandsL s gs).getD k 0 = y := by rw [List.getD_eq_getElem?_getD, hy]; rfl
  have hl : (gaL (plI s gs) c).length = 128 := by unfold gaL; rw [List.length_map]; exact (plI_perm hd).1
  have hm : ∀ x ∈ bandsL s gs, 0 ≤ x := fun x hx => by have := b1 x hx; omega
  have h0 := spT_nn hm k
  rw [ctN_bands] at hk
  have h8 := spT_le hm (show k + 1 ≤ ctN s gs by omega)
  rw [b2, spT_succ hy] at h8
  refine ⟨fun j x hj => coB_sub (P := fun x => -2097152 ≤ x ∧ x ≤ 2097152) (gaL_in hc) x (List.mem_of_getElem? hj), ?_⟩
  unfold ptA
  rw [List.length_take, List.length_drop, hl, hgd]
  omega
def enS (c : List Int) (s : Bool) (gs : List Int) : List Int := if spE c s gs = 0 then (cutL c s gs).map sqs else []
def toS (c : List Int) (s : Bool) (gs : List Int) : List Int := if spE c s gs = 0 then (cutL c s gs).map tnV else []
def ttS (c : List Int) (s : Bool) (gs : List Int) : Int := if spE c s gs = 0 then ((cutL c s gs).map sqs).sum else 0
theorem cutL_len {c : List Int} {s : Bool} {gs : List Int} (hd : isD s gs = true) : (cutL c s gs).length ≤ 100 ∧ True := by
  unfold cutL
  rw [ptL_len, ctN_bands]
  refine ⟨?_, trivial⟩
  cases s
  · show 15 ≤ 100; omega
  · have := (isG_bd (gs := gs) hd).1
    show gs.length * 4 ≤ 100
    omega
set_option maxRecDepth 100000 in
set_option maxHeartbeats 4000000 in
theorem Energies_any (cv : Value) (c : List Int) (s : Bool) (v : Value) (gs : List Int) (w : World) (hc : Ints w cv c) (h : Ints w v gs) (hg : Gv w) : Calls Tryd.prog 37 #[cv, .bool s, v] w (EInts w (enS c s gs) (spE c s gs)) := by
  have HC := Lib.hid (cut_any cv c s v gs w hc h hg)
  obtain ⟨ca, cc, rfl⟩ := hc.form
  obtain ⟨a, cap, rfl⟩ := h.form
  by_cases hE : spE c s gs = 0
  · obtain ⟨hd, hnl, hco⟩ := spE_ok hE
    clear hnl
    have HS := Lib.hid (show enS c s gs = (cutL c s gs).map sqs from if_pos hE)
    have HOk := Lib.hid (fun k xs (hx : (cutL c s gs)[k]? = some xs) => cutL_ok hd hco hx)
    have hln := (cutL_len (c := c) hd).1
    rw [hE] at HC ⊢
    rw [HS.out]
    generalize cutL c s gs = ps at *
    generalize c.length = n at *
    generalize gs.length = L at *
    clear h hc hg hd hco hE
    go_enter Tryd.func37, Tryd.ntmps37
    go_wp2_with fail
    with_reducible refine HC.out.mono ?_
    intro e w1 hr
    unfold CRes at hr
    rw [if_pos rfl] at hr
    obtain ⟨a1, n1, c1, rfl, hP, u1⟩ := hr
    have HP := Lib.hid hP; have U1 := Lib.hid u1
    clear hP u1
    go_wp2_with fail
    refine (eachEn_any _ ps sqs w1 HP.out (by omega) (fun k x xa xc w' hx _ ix => (energyOf_any _ x w' ix (HOk.out k x hx).1 (HOk.out k x hx).2.2).mono (by rintro r w'' ⟨rfl, rfl⟩; exact ⟨rfl, Upd.refl _ _⟩))).mono ?_
    rintro e w2 ⟨v2, rfl, r2, u2⟩
    obtain ⟨n2, hn2⟩ : ∃ n, (ps.map sqs).length = n := ⟨_, rfl⟩
    have HN2 := Lib.hid hn2
    rw [hn2] at r2
    obtain ⟨a2, c2, rfl⟩ := row_form r2
    have R2 := Lib.hid (row_base r2 U1.out.size); have U2 := Lib.hid (U1.out.then u2)
    clear r2 u2 hn2
    go_wp2_with fail
    go_ret2
    exact ⟨_, _, _, rfl, by rw [HN2.out]; exact R2.out, U2.out⟩
  · have HS := Lib.hid (show enS c s gs = [] from if_neg hE)
    have HE := Lib.hid hE
    have t1 : (spE c s gs != 0) = true := by rw [bne_iff_ne]; exact hE
    rw [HS.out]
    generalize spE c s gs = E at *
    generalize c.length = n at *
    generalize gs.length = L at *
    clear h hc hg hE
    go_enter Tryd.func37, Tryd.ntmps37
    go_wp2_with fail
    with_reducible refine HC.out.mono ?_
    intro e w1 hr
    unfold CRes at hr
    rw [if_neg HE.out] at hr
    obtain ⟨rfl, u1⟩ := hr
    have U1 := Lib.hid u1
    clear u1
    go_wp2_with fail
    go_ret2
    exact ⟨none, 0, 0, rfl, World.ownsRow_nil _ _ _ _, U1.out⟩
set_option maxRecDepth 100000 in
set_option maxHeartbeats 4000000 in
theorem Total_any (cv : Value) (c : List Int) (s : Bool) (v : Value) (gs : List Int) (w : World) (hc : Ints w cv c) (h : Ints w v gs) (hg : Gv w) : Calls Tryd.prog 39 #[cv, .bool s, v] w (fun e w' => e = .returned (.tuple #[.int .i64 (ttS c s gs), .int .i64 (spE c s gs)]) ∧ Upd NoB w w') := by
  have HC := Lib.hid (cut_any cv c s v gs w hc h hg)
  obtain ⟨ca, cc, rfl⟩ := hc.form
  obtain ⟨a, cap, rfl⟩ := h.form
  by_cases hE : spE c s gs = 0
  · obtain ⟨hd, hnl, hco⟩ := spE_ok hE
    clear hnl
    have HS := Lib.hid (show ttS c s gs = ((cutL c s gs).map sqs).sum from if_pos hE)
    have HOk := Lib.hid (fun k xs (hx : (cutL c s gs)[k]? = some xs) => cutL_ok hd hco hx)
    have hln := (cutL_len (c := c) hd).1
    rw [hE] at HC ⊢
    rw [HS.out]
    generalize cutL c s gs = ps at *
    generalize c.length = n at *
    generalize gs.length = L at *
    clear h hc hg hd hco hE
    go_enter Tryd.func39, Tryd.ntmps39
    go_wp2_with fail
    with_reducible refine HC.out.mono ?_
    intro e w1 hr
    unfold CRes at hr
    rw [if_pos rfl] at hr
    obtain ⟨a1, n1, c1, rfl, hP, u1⟩ := hr
    have HP := Lib.hid hP; have U1 := Lib.hid u1
    clear hP u1
    go_wp2_with fail
    refine (sumParts_any _ ps sqs w1 HP.out (by omega) (fun k x hx => sqs_bd (HOk.out k x hx).1 (HOk.out k x hx).2.2) (fun k x xa xc w' hx _ ix => (energyOf_any _ x w' ix (HOk.out k x hx).1 (HOk.out k x hx).2.2).mono (by rintro r w'' ⟨rfl, rfl⟩; exact ⟨rfl, Upd.refl _ _⟩))).mono ?_
    rintro e w2 ⟨rfl, u2⟩
    have U2 := Lib.hid (U1.out.then u2)
    clear u2
    go_wp2_with fail
    go_ret2
    exact ⟨rfl, U2.out⟩
  · have HS := Lib.hid (show ttS c s gs = 0 from if_neg hE)
    have HE := Lib.hid hE
    have t1 : (spE c s gs != 0) = true := by rw [bne_iff_ne]; exact hE
    rw [HS.out]
    generalize spE c s gs = E at *
    generalize c.length = n at *
    generalize gs.length = L at *
    clear h hc hg hE
    go_enter Tryd.func39, Tryd.ntmps39
    go_wp2_with fail
    with_reducible refine HC.out.mono ?_
    intro e w1 hr
    unfold CRes at hr
    rw [if_neg HE.out] at hr
    obtain ⟨rfl, u1⟩ := hr
    have U1 := Lib.hid u1
    clear u1
    go_wp2_with fail
    go_ret2
    exact ⟨rfl, U1.out⟩
set_option maxRecDepth 100000 in
set_option maxHeartbeats 4000000 in
theorem Tones_any (cv : Value) (c : List Int) (s : Bool) (v : Value) (gs : List Int) (w : World) (hc : Ints w cv c) (h : Ints w v gs) (hg : Gv w) : Calls Tryd.prog 41 #[cv, .bool s, v] w (EInts w (toS c s gs) (spE c s gs)) := by
  have HC := Lib.hid (cut_any cv c s v gs w hc h hg)
  obtain ⟨ca, cc, rfl⟩ := hc.form
  obtain ⟨a, cap, rfl⟩ := h.form
  by_cases hE : spE c s gs = 0
  · obtain ⟨hd, hnl, hco⟩ := spE_ok hE
    clear hnl
    have HS := Lib.hid (show toS c s gs = (cutL c s gs).map tnV from if_pos hE)
    have HOk := Lib.hid (fun k xs (hx : (cutL c s gs)[k]? = some xs) => cutL_ok hd hco hx)
    have hln := (cutL_len (c := c) hd).1
    rw [hE] at HC ⊢
    rw [HS.out]
    generalize cutL c s gs = ps at *
    generalize c.length = n at *
    generalize gs.length = L at *
    clear h hc hg hd hco hE
    go_enter Tryd.func41, Tryd.ntmps41
    go_wp2_with fail
    with_reducible refine HC.out.mono ?_
    intro e w1 hr
    unfold CRes at hr
    rw [if_pos rfl] at hr
    obtain ⟨a1, n1, c1, rfl, hP, u1⟩ := hr
    have HP := Lib.hid hP; have U1 := Lib.hid u1
    clear hP u1
    go_wp2_with fail
    refine (eachTo_any _ ps tnV w1 HP.out (by omega) (fun k x xa xc w' hx _ ix => toneOf_any _ x w' ix (HOk.out k x hx).1 (HOk.out k x hx).2.1 (HOk.out k x hx).2.2)).mono ?_
    rintro e w2 ⟨v2, rfl, r2, u2⟩
    obtain ⟨n2, hn2⟩ : ∃ n, (ps.map tnV).length = n := ⟨_, rfl⟩
    have HN2 := Lib.hid hn2
    rw [hn2] at r2
    obtain ⟨a2, c2, rfl⟩ := row_form r2
    have R2 := Lib.hid (row_base r2 U1.out.size); have U2 := Lib.hid (U1.out.then u2)
    clear r2 u2 hn2
    go_wp2_with fail
    go_ret2
    exact ⟨_, _, _, rfl, by rw [HN2.out]; exact R2.out, U2.out⟩
  · have HS := Lib.hid (show toS c s gs = [] from if_neg hE)
    have HE := Lib.hid hE
    have t1 : (spE c s gs != 0) = true := by rw [bne_iff_ne]; exact hE
    rw [HS.out]
    generalize spE c s gs = E at *
    generalize c.length = n at *
    generalize gs.length = L at *
    clear h hc hg hE
    go_enter Tryd.func41, Tryd.ntmps41
    go_wp2_with fail
    with_reducible refine HC.out.mono ?_
    intro e w1 hr
    unfold CRes at hr
    rw [if_neg HE.out] at hr
    obtain ⟨rfl, u1⟩ := hr
    have U1 := Lib.hid u1
    clear u1
    go_wp2_with fail
    go_ret2
    exact ⟨none, 0, 0, rfl, World.ownsRow_nil _ _ _ _, U1.out⟩
end Go.Proofs.YtgdndcbcdoogpaaDoor

namespace Go.Proofs.YtgdndcbcdoogpaaDoor
open Go.RowKit Go.Shelf

def lvE (xs : List Int) : Int := if 32 < xs.length then 2 else if inB 0 72057594037927936 xs then 0 else 6
def lvS (xs : List Int) : List Int := if lvE xs = 0 then xs.map lv else []
set_option maxRecDepth 100000 in
set_option maxHeartbeats 4000000 in
theorem Levels_any (sv : Value) (xs : List Int) (w : World) (h : Ints w sv xs) : Calls Tryd.prog 43 #[sv] w (EInts w (lvS xs) (lvE xs)) := by
  have HI := Lib.hid (within_any sv xs 0 72057594037927936 w h)
  have HEa := Lib.hid (fun w' (u : Upd NoB w w') (hl : xs.length ≤ 1000) (hin : inB 0 72057594037927936 xs = true) => eachLv_any sv xs lv w' (h.later u) hl (fun k x w2 hx _ => levelOf_any x w2 (inB_yes hin hx).1 (inB_yes hin hx).2))
  obtain ⟨a, cap, rfl⟩ := h.form
  by_cases hl : 32 < xs.length
  · have HE := Lib.hid (show lvE xs = 2 from if_pos hl)
    have HS := Lib.hid (show lvS xs = [] from if_neg (by rw [HE.out]; decide))
    rw [HE.out, HS.out]
    generalize xs.length = L at *
    have t1 : decide ((32 : Int) < (L : Int)) = true := decide_eq_true (by omega)
    have t1n : decide (32 < L) = true := decide_eq_true hl
    clear h hl
    go_enter Tryd.func43, Tryd.ntmps43
    go_wp2_with fail
    go_ret2
    exact ⟨none, 0, 0, rfl, World.ownsRow_nil _ _ _ _, Upd.refl _ _⟩
  · have HE0 := Lib.hid (show lvE xs = if inB 0 72057594037927936 xs then 0 else 6 from if_neg hl)
    have HEb := Lib.hid (fun w' (u : Upd NoB w w') => HEa.out w' u (by omega))
    have t1 : decide ((32 : Int) < (xs.length : Int)) = false := decide_eq_false (by omega)
    have t1n : decide (32 < xs.length) = false := decide_eq_false hl
    cases hin : inB 0 72057594037927936 xs with
    | false =>
      have HE := Lib.hid (show lvE xs = 6 by rw [HE0.out, hin]; rfl)
      have HS := Lib.hid (show lvS xs = [] from if_neg (by rw [HE.out]; decide))
      rw [HE.out, HS.out]
      rw [hin] at HI
      generalize xs.length = L at *
      clear h hl hin
      go_enter Tryd.func43, Tryd.ntmps43
      go_wp2_with fail
      refine HI.out.mono ?_
      rintro e w1 ⟨rfl, u1⟩
      have U1 := Lib.hid u1
      clear u1
      go_wp2_with fail
      go_ret2
      exact ⟨none, 0, 0, rfl, World.ownsRow_nil _ _ _ _, U1.out⟩
    | true =>
      have HE := Lib.hid (show lvE xs = 0 by rw [HE0.out, hin]; rfl)
      have HS := Lib.hid (show lvS xs = xs.map lv from if_pos HE.out)
      have HEc := Lib.hid (fun w' (u : Upd NoB w w') => HEb.out w' u hin)
      rw [HE.out, HS.out]
      rw [hin] at HI
      obtain ⟨n2, hn2⟩ : ∃ n, (xs.map lv).length = n := ⟨_, rfl⟩
      have HN2 := Lib.hid hn2
      generalize xs.map lv = ys at *
      generalize xs.length = L at *
      clear h hl hin
      go_enter Tryd.func43, Tryd.ntmps43
      go_wp2_with fail
      refine HI.out.mono ?_
      rintro e w1 ⟨rfl, u1⟩
      have U1 := Lib.hid u1
      clear u1
      go_wp2_with fail
      refine (HEc.out w1 U1.out).mono ?_
      rintro e w2 ⟨v2, rfl, r2, u2⟩
      rw [hn2] at r2
      obtain ⟨a2, c2, rfl⟩ := row_form r2
      have R2 := Lib.hid (row_base r2 U1.out.size); have U2 := Lib.hid (U1.out.then u2)
      clear r2 u2 hn2
      go_wp2_with fail
      go_ret2
      exact ⟨_, _, _, rfl, by rw [HN2.out]; exact R2.out, U2.out⟩
end Go.Proofs.YtgdndcbcdoogpaaDoor
