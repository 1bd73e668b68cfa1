/- bands: Band of the reference -/
import Derived.Test.YtaplmdkjoijcgaaDoorNJ
namespace Go.Proofs.YtaplmdkjoijcgaaDoor
open Go.RowKit Go.Shelf

/-- the band of the i-th element, where the bands have these widths -/
def bdF : List Int → Int → Nat
  | [], _ => 0
  | w :: t, i => if i < w then 0 else 1 + bdF t (i - w)
def bdE (s : Bool) (gs : List Int) (i : Int) : Int := if isD s gs then (if 0 ≤ i ∧ i < 128 then 0 else 6) else 1
def bdS (s : Bool) (gs : List Int) (i : Int) : Int := if bdE s gs i = 0 then (bdF (bandsL s gs) i : Nat) else 0
set_option maxRecDepth 100000 in
set_option maxHeartbeats 4000000 in
theorem rBand_any (i : Int) (s : Bool) (v : Value) (gs : List Int) (w : World) (h : Ints w v gs) :
    Calls Tryd.prog 29 #[.int .i64 i, .bool s, v] w fun e w' => e = .returned (.tuple #[.int .i64 (bdS s gs i), .int .i64 (bdE s gs i)]) ∧ Upd NoB w w' := by
  have HI := Lib.hid (rIs_any s v gs w h)
  cases hd : isD s gs with
  | true =>
    have HB := Lib.hid (rBands_any s v gs w h hd)
    have HE0 := Lib.hid (show bdE s gs i = if 0 ≤ i ∧ i < 128 then 0 else 6 from if_pos hd)
    have HBb := Lib.hid (bands_bd hd); have HBl := Lib.hid (ctN_bands s gs); have hct := ctN_le hd
    obtain ⟨a, cap, rfl⟩ := h.form
    rw [hd] at HI
    obtain ⟨L, hL⟩ : ∃ L, gs.length = L := ⟨_, rfl⟩
    rw [hL] at HI HB ⊢
    clear h hd hL
    by_cases hb : 0 ≤ i ∧ i < 128
    · have HE := Lib.hid (show bdE s gs i = 0 by rw [HE0.out, if_pos hb])
      have HF := Lib.hid (show bdS s gs i = (bdF (bandsL s gs) i : Nat) from if_pos HE.out)
      rw [HE.out, HF.out]
      obtain ⟨i0, i8⟩ := hb
      have z0 : decide (i < 0) = false := decide_eq_false (by omega)
      have z1 : decide ((128 : Int) ≤ i) = false := decide_eq_false (by omega)
      generalize ctN s gs = C at *
      generalize bandsL s gs = ls at *
      go_enter Tryd.func29, Tryd.ntmps29
      go_wp2_with fail
      refine HI.out.mono ?_
      rintro e w' ⟨rfl, rfl⟩
      go_wp2_with fail
      refine HB.out.mono ?_
      rintro e w2 ⟨v2, rfl, r2, u2⟩
      obtain ⟨a2, c2, rfl⟩ := row_form r2
      have I2 := Lib.hid (Ints.ofRow r2 (by rw [HBl.out]; omega)); have U2 := Lib.hid u2
      rw [HBl.out] at I2 ⊢
      clear r2 u2
      go_wp2_with fail
      go_loop [0, 8, 25] (fun x b y => ∃ (k : Nat) (j : Int), k ≤ C ∧ y = .int .i64 k ∧ b = .int .i64 k ∧ x = .int .i64 j ∧ (0 ≤ j ∧ j ≤ 128) ∧ bdF ls i = k + bdF (ls.drop k) j) (fun _ _ y => C - (intOf y).toNat)
      case atStart => exact ⟨0, i, Nat.zero_le _, rfl, rfl, rfl, by omega, by rw [List.drop_zero, Nat.zero_add]⟩
      case round =>
        obtain ⟨k, j, hk, rfl, rfl, rfl, hj, hi⟩ := hrel
        obtain ⟨j0, j8⟩ := hj
        have HBd := Lib.hid hi; clear hi
        by_cases hlt : k < C
        · obtain ⟨x, hx⟩ : ∃ x, ls[k]? = some x := ⟨_, List.getElem?_eq_getElem (by rw [HBl.out]; exact hlt)⟩
          obtain ⟨bb, off, rfl, c0⟩ := I2.out.cellAt hx
          obtain ⟨x0, x8⟩ := HBb.out x (List.mem_of_getElem? hx)
          have hd : ls.drop k = x :: ls.drop (k + 1) := by
            have e := (List.getElem?_eq_some_iff.1 hx).2
            rw [← e, List.getElem_cons_drop]
          by_cases hjx : j < x
          · have HFi := Lib.hid (show bdF ls i = k by rw [HBd.out, hd]; show k + (if j < x then 0 else _) = k; rw [if_pos hjx]; rfl)
            have t1 : decide (j < x) = true := decide_eq_true hjx
            clear hx hd hjx
            go_wp2_with fail
            go_ret2
            exact ⟨by rw [HFi.out]; rfl, U2.out⟩
          · have HFi := Lib.hid (show bdF ls i = (k + 1 : Nat) + bdF (ls.drop (k + 1)) (j - x) by rw [HBd.out, hd]; show k + (if j < x then 0 else 1 + bdF _ _) = _; rw [if_neg hjx]; omega)
            have t1 : decide (j < x) = false := decide_eq_false hjx
            have jx : x ≤ j := by omega
            clear hx hd hjx
            go_wp2_with fail
            go_round
            case rel => exact ⟨k + 1, j - x, by omega, by go_num, by go_num, rfl, by omega, HFi.out⟩
            case measure => simp [intOf]; omega
        · obtain rfl : k = C := by omega
          have HFi := Lib.hid (show bdF ls i = k by rw [HBd.out, List.drop_of_length_le (by rw [HBl.out]; exact Nat.le_refl _)]; rfl)
          go_wp2_with fail
          go_ret2
          exact ⟨by rw [HFi.out]; rfl, U2.out⟩
    · have hE : bdE s gs i = 6 := by rw [HE0.out, if_neg hb]
      have HE := Lib.hid hE; have HF := Lib.hid (show bdS s gs i = 0 from if_neg (by rw [hE]; decide))
      rw [HE.out, HF.out]
      by_cases hb0 : i < 0
      · have z0 : decide (i < 0) = true := decide_eq_true hb0
        clear hb hb0 hE
        go_enter Tryd.func29, Tryd.ntmps29
        go_wp2_with fail
        refine HI.out.mono ?_
        rintro e w' ⟨rfl, rfl⟩
        go_wp2_with fail
        go_ret2
        exact ⟨rfl, Upd.refl _ _⟩
      · have z0 : decide (i < 0) = false := decide_eq_false hb0
        have z1 : decide ((128 : Int) ≤ i) = true := decide_eq_true (by omega)
        clear hb hb0 hE
        go_enter Tryd.func29, Tryd.ntmps29
        go_wp2_with fail
        refine HI.out.mono ?_
        rintro e w' ⟨rfl, rfl⟩
        go_wp2_with fail
        go_ret2
        exact ⟨rfl, Upd.refl _ _⟩
  | false =>
    have hE : bdE s gs i = 1 := if_neg (by rw [hd]; simp)
    have HE := Lib.hid hE; have HF := Lib.hid (show bdS s gs i = 0 from if_neg (by rw [hE]; decide))
    rw [HE.out, HF.out]
    obtain ⟨a, cap, rfl⟩ := h.form
    rw [hd] at HI
    obtain ⟨L, hL⟩ : ∃ L, gs.length = L := ⟨_, rfl⟩
    rw [hL] at HI ⊢
    clear h hd hL hE
    go_enter Tryd.func29, Tryd.ntmps29
    go_wp2_with fail
    refine HI.out.mono ?_
    rintro e w' ⟨rfl, rfl⟩
    go_wp2_with fail
    go_ret2
    exact ⟨rfl, Upd.refl _ _⟩
end Go.Proofs.YtaplmdkjoijcgaaDoor
