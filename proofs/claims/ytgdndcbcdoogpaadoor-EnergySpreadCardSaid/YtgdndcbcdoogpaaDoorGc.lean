/- bands: Band of the reference | bands: the first span behind an element | bands: Band -/
import Derived.Test.YtgdndcbcdoogpaaDoorGb
namespace Go.Proofs.YtgdndcbcdoogpaaDoor
open Go.RowKit Go.Shelf

/-- the band of the i-th element, where the bands have these widths -/
def bdF : List Int → Int → Nat
  | [], _ => 0
  | w :: t, i => if i < w then 0 else 1 + bdF t (i - w)
def bdE (s : Bool) (gs : List Int) (i : Int) : Int := if isD s gs then (if 0 ≤ i ∧ i < 128 then 0 else 6) else 1
def bdS (s : Bool) (gs : List Int) (i : Int) : Int := if bdE s gs i = 0 then (bdF (bandsL s gs) i : Nat) else 0
set_option maxRecDepth 100000 in
set_option maxHeartbeats 4000000 in
theorem rBand_any (i : Int) (s : Bool) (v : Value) (gs : List Int) (w : World) (h : Ints w v gs) :
    Calls Tryd.prog 29 #[.int .i64 i, .bool s, v] w fun e w' => e = .returned (.tuple #[.int .i64 (bdS s gs i), .int .i64 (bdE s gs i)]) ∧ Upd NoB w w' := by
  have HI := Lib.hid (rIs_any s v gs w h)
  cases hd : isD s gs with
  | true =>
    have HB := Lib.hid (rBands_any s v gs w h hd)
    have HE0 := Lib.hid (show bdE s gs i = if 0 ≤ i ∧ i < 128 then 0 else 6 from if_pos hd)
    have HBb := Lib.hid (bands_bd hd); have HBl := Lib.hid (ctN_bands s gs); have hct := ctN_le hd
    obtain ⟨a, cap, rfl⟩ := h.form
    rw [hd] at HI
    obtain ⟨L, hL⟩ : ∃ L, gs.length = L := ⟨_, rfl⟩
    rw [hL] at HI HB ⊢
    clear h hd hL
    by_cases hb : 0 ≤ i ∧ i < 128
    · have HE := Lib.hid (show bdE s gs i = 0 by rw [HE0.out, if_pos hb])
      have HF := Lib.hid (show bdS s gs i = (bdF (bandsL s gs) i : Nat) from if_pos HE.out)
      rw [HE.out, HF.out]
      obtain ⟨i0, i8⟩ := hb
      have z0 : decide (i < 0) = false := decide_eq_false (by omega)
      have z1 : decide ((128 : Int) ≤ i) = false := decide_eq_false (by omega)
      generalize ctN s gs = C at *
      generalize bandsL s gs = ls at *
      go_enter Tryd.func29, Tryd.ntmps29
      go_wp2_with fail
      refine HI.out.mono ?_
      rintro e w' ⟨rfl, rfl⟩
      go_wp2_with fail
      refine HB.out.mono ?_
      rintro e w2 ⟨v2, rfl, r2, u2⟩
      obtain ⟨a2, c2, rfl⟩ := row_form r2
      have I2 := Lib.hid (Ints.ofRow r2 (by rw [HBl.out]; omega)); have U2 := Lib.hid u2
      rw [HBl.out] at I2 ⊢
      clear r2 u2
      go_wp2_with fail
      go_loop [0, 8, 25] (fun x b y => ∃ (k : Nat) (j : Int), k ≤ C ∧ y = .int .i64 k ∧ b = .int .i64 k ∧ x = .int .i64 j ∧ (0 ≤ j ∧ j ≤ 128) ∧ bdF ls i = k + bdF (ls.drop k) j) (fun _ _ y => C - (intOf y).toNat)
      case atStart => exact ⟨0, i, Nat.zero_le _, rfl, rfl, rfl, by omega, by rw [List.drop_zero, Nat.zero_add]⟩
      case round =>
        obtain ⟨k, j, hk, rfl, rfl, rfl, hj, hi⟩ := hrel
        obtain ⟨j0, j8⟩ := hj
        have HBd := Lib.hid hi; clear hi
        by_cases hlt : k < C
        · obtain ⟨x, hx⟩ : ∃ x, ls[k]? = some x := ⟨_, List.getElem?_eq_getElem (by rw [HBl.out]; exact hlt)⟩
          obtain ⟨bb, off, rfl, c0⟩ := I2.out.cellAt hx
          obtain ⟨x0, x8⟩ := HBb.out x (List.mem_of_getElem? hx)
          have hd : ls.drop k = x :: ls.drop (k + 1) := by
            have e := (List.getElem?_eq_some_iff.1 hx).2
            rw [← e, List.getElem_cons_drop]
          by_cases hjx : j < x
          · have HFi := Lib.hid (show bdF ls i = k by rw [HBd.out, hd]; show k + (if j < x then 0 else _) = k; rw [if_pos hjx]; rfl)
            have t1 : decide (j < x) = true := decide_eq_true hjx
            clear hx hd hjx
            go_wp2_with fail
            go_ret2
            exact ⟨by rw [HFi.out]; rfl, U2.out⟩
          · have HFi := Lib.hid (show bdF ls i = (k + 1 : Nat) + bdF (ls.drop (k + 1)) (j - x) by rw [HBd.out, hd]; show k + (if j < x then 0 else 1 + bdF _ _) = _; rw [if_neg hjx]; omega)
            have t1 : decide (j < x) = false := decide_eq_false hjx
            have jx : x ≤ j := by omega
            clear hx hd hjx
            go_wp2_with fail
            go_round
            case rel => exact ⟨k + 1, j - x, by omega, by go_num, by go_num, rfl, by omega, HFi.out⟩
            case measure => simp [intOf]; omega
        · obtain rfl : k = C := by omega
          have HFi := Lib.hid (show bdF ls i = k by rw [HBd.out, List.drop_of_length_le (by rw [HBl.out]; exact Nat.le_refl _)]; rfl)
          go_wp2_with fail
          go_ret2
          exact ⟨by rw [HFi.out]; rfl, U2.out⟩
    · have hE : bdE s gs i = 6 := by rw [HE0.out, if_neg hb]
      have HE := Lib.hid hE; have HF := Lib.hid (show bdS s gs i = 0 from if_neg (by rw [hE]; decide))
      rw [HE.out, HF.out]
      by_cases hb0 : i < 0
      · have z0 : decide (i < 0) = true := decide_eq_true hb0
        clear hb hb0 hE
        go_enter Tryd.func29, Tryd.ntmps29
        go_wp2_with fail
        refine HI.out.mono ?_
        rintro e w' ⟨rfl, rfl⟩
        go_wp2_with fail
        go_ret2
        exact ⟨rfl, Upd.refl _ _⟩
      · have z0 : decide (i < 0) = false := decide_eq_false hb0
        have z1 : decide ((128 : Int) ≤ i) = true := decide_eq_true (by omega)
        clear hb hb0 hE
        go_enter Tryd.func29, Tryd.ntmps29
        go_wp2_with fail
        refine HI.out.mono ?_
        rintro e w' ⟨rfl, rfl⟩
        go_wp2_with fail
        go_ret2
        exact ⟨rfl, Upd.refl _ _⟩
  | false =>
    have hE : bdE s gs i = 1 := if_neg (by rw [hd]; simp)
    have HE := Lib.hid hE; have HF := Lib.hid (show bdS s gs i = 0 from if_neg (by rw [hE]; decide))
    rw [HE.out, HF.out]
    obtain ⟨a, cap, rfl⟩ := h.form
    rw [hd] at HI
    obtain ⟨L, hL⟩ : ∃ L, gs.length = L := ⟨_, rfl⟩
    rw [hL] at HI ⊢
    clear h hd hL hE
    go_enter Tryd.func29, Tryd.ntmps29
    go_wp2_with fail
    refine HI.out.mono ?_
    rintro e w' ⟨rfl, rfl⟩
    go_wp2_with fail
    go_ret2
    exact ⟨rfl, Upd.refl _ _⟩
end Go.Proofs.YtgdndcbcdoogpaaDoor

namespace Go.Proofs.YtgdndcbcdoogpaaDoor
open Go.RowKit Go.Shelf

set_option maxRecDepth 100000 in
theorem band1_any (f t i : Int) (B : Nat) (w : World) (hb : w.cell? ⟨B, 0, none⟩ = some (.int .i64 i)) :
    Calls Tryd.prog 61 #[.agg #[.int .i64 f, .int .i64 t], .pointer (some ⟨B, 0, none⟩)] w fun e w' => e = .returned (.bool (decide (i < t))) ∧ Upd NoB w w' := by
  have hb2 : (w.alloc (.cells #[.int .i64 f, .int .i64 t] 66)).cell? ⟨B, 0, none⟩ = some (.int .i64 i) := ((Upd.refl NoB w).alloc _).cell hb (noB _)
  go_enter Tryd.func61, Tryd.ntmps61
  go_wp2_with fail
  go_ret
  exact ⟨rfl, (Upd.refl _ _).alloc _⟩
/-- The spans lie there. -/
def SpAt (w : World) (g : Nat) (ws : List Int) (C : Nat) : Prop := ∀ j, j < C → w.cell? ⟨g, j * 2, none⟩ = some (.int .i64 (spT ws j)) ∧ w.cell? ⟨g, j * 2 + 1, none⟩ = some (.int .i64 (spT ws (j + 1)))
theorem SpAt.later {w w' : World} {g : Nat} {ws : List Int} {C : Nat} (h : SpAt w g ws C) (u : Upd NoB w w') : SpAt w' g ws C := fun j hj => ⟨u.cell (h j hj).1 (noB _), u.cell (h j hj).2 (noB _)⟩
set_option maxRecDepth 100000 in
set_option maxHeartbeats 2000000 in
theorem indexFunc_any (g C c : Nat) (ws : List Int) (i : Int) (B : Nat) (w : World) (hC : C ≤ 1000) (hs : SpAt w g ws C) (hb : w.cell? ⟨B, 0, none⟩ = some (.int .i64 i)) :
    Calls Tryd.prog 59 #[.slice (some ⟨g, 0, none⟩) C c, .func (.func 61) #[] #[.pointer (some ⟨B, 0, none⟩)]] w fun e w' =>
      (∃ r : Int, e = .returned (.int .i64 r) ∧ ((∃ k : Nat, k < C ∧ r = (k : Int) ∧ (∀ j, j < k → spT ws (j + 1) ≤ i) ∧ i < spT ws (k + 1)) ∨ (∀ j, j < C → spT ws (j + 1) ≤ i))) ∧ Upd NoB w w' := by
  have HS := Lib.hid hs; have HB := Lib.hid hb
  clear hs hb
  go_enter Tryd.func59, Tryd.ntmps59
  go_wp2_with fail
  go_loopw [8] (fun x wr => ∃ k : Nat, k ≤ C ∧ x = .int .i64 k ∧ (∀ j, j < k → spT ws (j + 1) ≤ i) ∧ Upd NoB w wr) (fun x _ => C - (intOf x).toNat)
  case atStart => exact ⟨0, Nat.zero_le _, rfl, fun j hj => by omega, Upd.refl _ _⟩
  case round =>
    obtain ⟨k, hk, rfl, hno, hu⟩ := hrel
    have HNo := Lib.hid hno; have HU := Lib.hid hu
    clear hno
    by_cases hlt : k < C
    · obtain ⟨c0, c1⟩ := (HS.out.later hu) k hlt
      have HBr := Lib.hid (hu.cell HB.out (noB _))
      have HMo := Lib.hid (fun (h : spT ws (k + 1) ≤ i) => show ∀ j, j < k + 1 → spT ws (j + 1) ≤ i from fun j hj => by
        by_cases e : j = k
        · subst e; exact h
        · exact HNo.out j (by omega))
      have HFo := Lib.hid (fun (h : i < spT ws (k + 1)) => show ∃ k' : Nat, k' < C ∧ ((k : Nat) : Int) = (k' : Int) ∧ (∀ j, j < k' → spT ws (j + 1) ≤ i) ∧ i < spT ws (k' + 1) from ⟨k, hlt, rfl, HNo.out, h⟩)
      generalize spT ws (k + 1) = t at *
      generalize spT ws k = f at *
      clear hu
      have HCa := Lib.hid (band1_any f t i B wr HBr.out)
      by_cases hit : i < t
      · have HD := Lib.hid (show decide (i < t) = true from decide_eq_true hit)
        rw [HD.out] at HCa
        have HFo2 := Lib.hid (HFo.out hit)
        clear hit
        go_wp2_with fail
        refine HCa.out.mono ?_
        rintro e w2 ⟨rfl, u2⟩
        have U2 := Lib.hid (HU.out.then u2)
        clear u2
        go_wp2_with fail
        go_ret
        exact ⟨⟨_, rfl, .inl HFo2.out⟩, U2.out⟩
      · have HD := Lib.hid (show decide (i < t) = false from decide_eq_false hit)
        rw [HD.out] at HCa
        have HMo2 := Lib.hid (HMo.out (by omega))
        clear hit
        go_wp2_with fail
        refine HCa.out.mono ?_
        rintro e w2 ⟨rfl, u2⟩
        have U2 := Lib.hid (HU.out.then u2)
        clear u2
        go_wp2_with fail
        go_roundw
        case rel => exact ⟨k + 1, by omega, by go_num, HMo2.out, U2.out⟩
        case measure => simp [intOf]; omega
    · obtain rfl : k = C := by omega
      clear hu
      go_wp2_with fail
      go_ret
      exact ⟨⟨_, rfl, .inr HNo.out⟩, HU.out⟩
end Go.Proofs.YtgdndcbcdoogpaaDoor

namespace Go.Proofs.YtgdndcbcdoogpaaDoor
open Go.RowKit Go.Shelf

theorem bdF_from {ls : List Int} {i : Int} : ∀ k : Nat, k ≤ ls.length → (∀ j, j < k → spT ls (j + 1) ≤ i) → bdF ls i = k + bdF (ls.drop k) (i - spT ls k)
  | 0, _, _ => by simp [spT]
  | k + 1, hk, h => by
    have ih := bdF_from (ls := ls) (i := i) k (by omega) (fun j hj => h j (by omega))
    obtain ⟨x, hx⟩ : ∃ x, ls[k]? = some x := ⟨_, List.getElem?_eq_getElem (by omega)⟩
    have hd : ls.drop k = x :: ls.drop (k + 1) := by
      have e := (List.getElem?_eq_some_iff.1 hx).2
      rw [← e, List.getElem_cons_drop]
    have hs := spT_succ hx
    have hi := h k (by omega)
    rw [ih, hd]
    show k + (if i - spT ls k < x then 0 else 1 + bdF (ls.drop (k + 1)) (i - spT ls k - x)) = _
    rw [if_neg (by omega), show i - spT ls k - x = i - spT ls (k + 1) by omega]
    omega
theorem bdF_at {ls : List Int} {i : Int} {k : Nat} (hk : k < ls.length) (h : ∀ j, j < k → spT ls (j + 1) ≤ i) (hi : i < spT ls (k + 1)) : bdF ls i = k := by
  rw [bdF_from k (by omega) h]
  obtain ⟨x, hx⟩ : ∃ x, ls[k]? = some x := ⟨_, List.getElem?_eq_getElem hk⟩
  have hd : ls.drop k = x :: ls.drop (k + 1) := by
    have e := (List.getElem?_eq_some_iff.1 hx).2
    rw [← e, List.getElem_cons_drop]
  have hs := spT_succ hx
  rw [hd]
  show k + (if i - spT ls k < x then 0 else _) = k
  rw [if_pos (by omega)]; rfl
theorem bw_sum : ∀ gs : List Int, (bwL swL gs).sum = 16 * gs.sum
  | [] => by simp [bwL]
  | g :: t => by
    have ih := bw_sum t
    unfold bwL at ih ⊢
    rw [List.flatMap_cons, List.sum_append, ih, List.sum_cons]
    simp [swL]; omega
theorem bands_sum {s : Bool} {gs : List Int} (h : isD s gs = true) : spT (bandsL s gs) (ctN s gs) = 128 := by
  unfold spT
  rw [← ctN_bands, List.take_length]
  cases s
  · rw [bandsL_long]; decide
  · show (bwL swL gs).sum = 128
    rw [bw_sum, (isG_iff.1 (show isG 8 gs = true from h)).2]; rfl
theorem ctN_pos {s : Bool} {gs : List Int} (h : isD s gs = true) : 0 < ctN s gs := by
  have hs := bands_sum h
  rcases Nat.eq_zero_or_pos (ctN s gs) with e | e
  · rw [e] at hs; simp [spT] at hs
  · exact e
set_option maxRecDepth 100000 in
set_option maxHeartbeats 4000000 in
theorem Band_any (i : Int) (s : Bool) (v : Value) (gs : List Int) (w : World) (h : Ints w v gs) (hg : Gv w) :
    Calls Tryd.prog 28 #[.int .i64 i, .bool s, v] w fun e w' => e = .returned (.tuple #[.int .i64 (bdS s gs i), .int .i64 (bdE s gs i)]) ∧ Upd NoB w w' := by
  obtain ⟨W, hW⟩ : ∃ W, W = w.alloc (.cells #[.int .i64 i] 3) := ⟨_, rfl⟩
  have u0 : Upd NoB w W := by rw [hW]; exact (Upd.refl _ _).alloc _
  have bx : W.heap[w.heap.size]? = some (.cells #[.int .i64 i] 3 (0, 0)) := by rw [hW]; exact heap_alloc_new w _
  have HD := Lib.hid (divisionOf_any s v gs W (h.later u0) (hg.later u0))
  have HW := Lib.hid hW; have U0 := Lib.hid u0; have BX := Lib.hid (blk_cell bx 0)
  obtain ⟨a, cap, rfl⟩ := h.form
  clear hW u0 bx
  cases hd : isD s gs with
  | true =>
    have HBg := Lib.hid (dG_bd hd)
    have HDd := Lib.hid hd
    have HE0 := Lib.hid (show bdE s gs i = if 0 ≤ i ∧ i < 128 then 0 else 6 from if_pos hd)
    have HBb := Lib.hid (bands_bd hd); have HBl := Lib.hid (ctN_bands s gs); have hct := ctN_le hd
    have HBW := Lib.hid (show bwL (dW s) (dG s gs) = bandsL s gs from rfl)
    have HSu := Lib.hid (bands_sum hd); have hcp := ctN_pos hd
    obtain ⟨L, hL⟩ : ∃ L, gs.length = L := ⟨_, rfl⟩
    rw [hL] at HD ⊢
    clear h hg hd hL
    by_cases hb : 0 ≤ i ∧ i < 128
    · have HE := Lib.hid (show bdE s gs i = 0 by rw [HE0.out, if_pos hb])
      have HF := Lib.hid (show bdS s gs i = (bdF (bandsL s gs) i : Nat) from if_pos HE.out)
      rw [HE.out, HF.out]
      obtain ⟨i0, i8⟩ := hb
      have z0 : decide (i < 0) = false := decide_eq_false (by omega)
      have z1 : decide ((128 : Int) ≤ i) = false := decide_eq_false (by omega)
      generalize ctN s gs = C at *
      go_enter Tryd.func28, Tryd.ntmps28
      go_wp2_with fail
      rw [← HW.out]
      refine HD.out.mono ?_
      intro e w1 hr
      unfold DRes at hr
      rw [if_pos HDd.out] at hr
      obtain ⟨vw, vg, rfl, iw, ig, u1⟩ := hr
      obtain ⟨aw, cw, rfl⟩ := iw.form
      obtain ⟨ag, cg, rfl⟩ := ig.form
      have IW := Lib.hid iw; have IG := Lib.hid ig; have U1 := Lib.hid u1
      have b1 : (w1.alloc (.cells #[.int .i64 (dLn s), .slice aw (dW s).length cw, .slice ag (dG s gs).length cg] 52)).cell? ⟨w.heap.size, 0, none⟩ = some (.int .i64 i) := (u1.then ((Upd.refl NoB w1).alloc _)).cell BX.out (noB _)
      clear iw ig u1
      go_wp2_with fail
      refine (bandWidths_any (dLn s) _ _ (dW s) (dG s gs) _ (IW.out.later ((Upd.refl NoB w1).alloc _)) (IG.out.later ((Upd.refl NoB w1).alloc _)) (dW_bd s) HBg.out).mono ?_
      rw [HBW.out]
      rintro e w3 ⟨v3, rfl, r3, u3⟩
      obtain ⟨a3, c3, rfl⟩ := row_form r3
      have I3 := Lib.hid (Ints.ofRow r3 (by rw [HBl.out]; omega)); have U13 := Lib.hid (((Upd.refl NoB w1).alloc _).then u3)
      clear r3 u3 b1
      go_wp2_with fail
      refine (spans_any _ (bandsL s gs) w3 I3.out (by rw [HBl.out]; omega) HBb.out).mono ?_
      rintro e w4 ⟨v4, rfl, r4, u4⟩
      rw [HBl.out] at r4
      obtain ⟨g4, c4, rfl⟩ := row_slice r4 (by omega)
      have U14 := Lib.hid (U13.out.then u4)
      have HSp := Lib.hid (show SpAt w4 g4 (bandsL s gs) C from fun j hj => by
        have hlen := spC_length (bandsL s gs) C
        obtain ⟨s1, s2⟩ := spC_get (ws := bandsL s gs) hj
        have d0 := r4.cellAt (2 * j) (by omega)
        have d1 := r4.cellAt (2 * j + 1) (by omega)
        rw [s1, Nat.mul_comm] at d0
        rw [s2, Nat.mul_comm] at d1
        exact ⟨d0, d1⟩)
      have HIx := Lib.hid (indexFunc_any g4 C c4 (bandsL s gs) i w.heap.size w4 (by omega) HSp.out ((U1.out.then U14.out).cell BX.out (noB _)))
      clear u4 r4
      go_wp2_with fail
      refine HIx.out.mono ?_
      rintro e w5 ⟨⟨r, rfl, hr⟩, u5⟩
      have HR := Lib.hid (show r = ((bdF (bandsL s gs) i : Nat) : Int) by
        rcases hr with ⟨k, hk, rfl, h1, h2⟩ | h1
        · rw [bdF_at (by rw [HBl.out]; exact hk) h1 h2]
        · have := h1 (C - 1) (by omega)
          rw [show C - 1 + 1 = C by omega, HSu.out] at this
          omega)
      have U5 := Lib.hid (U0.out.then ((U1.out.then U14.out).then u5))
      clear hr u5
      go_wp2_with fail
      go_ret2
      exact ⟨by rw [← HR.out]; rfl, U5.out⟩
    · have hE : bdE s gs i = 6 := by rw [HE0.out, if_neg hb]
      have HE := Lib.hid hE; have HF := Lib.hid (show bdS s gs i = 0 from if_neg (by rw [hE]; decide))
      rw [HE.out, HF.out]
      by_cases hb0 : i < 0
      · have z0 : decide (i < 0) = true := decide_eq_true hb0
        clear hb hb0 hE
        go_enter Tryd.func28, Tryd.ntmps28
        go_wp2_with fail
        rw [← HW.out]
        refine HD.out.mono ?_
        intro e w1 hr
        unfold DRes at hr
        rw [if_pos HDd.out] at hr
        obtain ⟨vw, vg, rfl, iw, ig, u1⟩ := hr
        obtain ⟨aw, cw, rfl⟩ := iw.form
        obtain ⟨ag, cg, rfl⟩ := ig.form
        have U1 := Lib.hid u1
        have b1 : (w1.alloc (.cells #[.int .i64 (dLn s), .slice aw (dW s).length cw, .slice ag (dG s gs).length cg] 52)).cell? ⟨w.heap.size, 0, none⟩ = some (.int .i64 i) := (u1.then ((Upd.refl NoB w1).alloc _)).cell BX.out (noB _)
        clear iw ig u1
        go_wp2_with fail
        go_ret2
        exact ⟨rfl, (U0.out.then U1.out).alloc _⟩
      · have z0 : decide (i < 0) = false := decide_eq_false hb0
        have z1 : decide ((128 : Int) ≤ i) = true := decide_eq_true (by omega)
        clear hb hb0 hE
        go_enter Tryd.func28, Tryd.ntmps28
        go_wp2_with fail
        rw [← HW.out]
        refine HD.out.mono ?_
        intro e w1 hr
        unfold DRes at hr
        rw [if_pos HDd.out] at hr
        obtain ⟨vw, vg, rfl, iw, ig, u1⟩ := hr
        obtain ⟨aw, cw, rfl⟩ := iw.form
        obtain ⟨ag, cg, rfl⟩ := ig.form
        have U1 := Lib.hid u1
        have b1 : (w1.alloc (.cells #[.int .i64 (dLn s), .slice aw (dW s).length cw, .slice ag (dG s gs).length cg] 52)).cell? ⟨w.heap.size, 0, none⟩ = some (.int .i64 i) := (u1.then ((Upd.refl NoB w1).alloc _)).cell BX.out (noB _)
        clear iw ig u1
        go_wp2_with fail
        go_ret2
        exact ⟨rfl, (U0.out.then U1.out).alloc _⟩
  | false =>
    have hE : bdE s gs i = 1 := if_neg (by rw [hd]; simp)
    have HE := Lib.hid hE; have HF := Lib.hid (show bdS s gs i = 0 from if_neg (by rw [hE]; decide))
    rw [HE.out, HF.out]
    have HDd := Lib.hid (show ¬ isD s gs = true by rw [hd]; simp)
    obtain ⟨L, hL⟩ : ∃ L, gs.length = L := ⟨_, rfl⟩
    rw [hL] at HD ⊢
    clear h hg hd hL hE
    go_enter Tryd.func28, Tryd.ntmps28
    go_wp2_with fail
    rw [← HW.out]
    refine HD.out.mono ?_
    intro e w1 hr
    unfold DRes at hr
    rw [if_neg HDd.out] at hr
    obtain ⟨rfl, u1⟩ := hr
    have U1 := Lib.hid u1
    clear u1
    go_wp2_with fail
    go_ret2
    exact ⟨rfl, (U0.out.then U1.out).alloc _⟩
end Go.Proofs.YtgdndcbcdoogpaaDoor
