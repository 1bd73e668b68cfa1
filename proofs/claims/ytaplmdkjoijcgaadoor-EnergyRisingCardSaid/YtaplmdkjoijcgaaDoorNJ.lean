/- bands: Range of the reference -/
import Derived.Test.YtaplmdkjoijcgaaDoorNI
namespace Go.Proofs.YtaplmdkjoijcgaaDoor
open Go.RowKit Go.Shelf

set_option maxRecDepth 100000 in
set_option maxHeartbeats 4000000 in
theorem rRange_any (b : Int) (s : Bool) (v : Value) (gs : List Int) (w : World) (h : Ints w v gs) :
    Calls Tryd.prog 31 #[.int .i64 b, .bool s, v] w fun e w' => e = .returned (.tuple #[.int .i64 (rgF s gs b), .int .i64 (rgT s gs b), .int .i64 (rgE s gs b)]) ∧ Upd NoB w w' := by
  have HI := Lib.hid (rIs_any s v gs w h)
  cases hd : isD s gs with
  | true =>
    have HB := Lib.hid (rBands_any s v gs w h hd)
    have HE0 := Lib.hid (show rgE s gs b = if 0 ≤ b ∧ b < (ctN s gs : Nat) then 0 else 6 from if_pos hd)
    have HBb := Lib.hid (bands_bd hd); have HBl := Lib.hid (ctN_bands s gs); have hct := ctN_le hd
    have BD := Lib.hid (fun k => spT_bd HBb.out k)
    obtain ⟨a, cap, rfl⟩ := h.form
    rw [hd] at HI
    obtain ⟨L, hL⟩ : ∃ L, gs.length = L := ⟨_, rfl⟩
    rw [hL] at HI HB ⊢
    clear h hd hL
    by_cases hb : 0 ≤ b ∧ b < (ctN s gs : Nat)
    · have HE := Lib.hid (show rgE s gs b = 0 by rw [HE0.out, if_pos hb])
      have HF := Lib.hid (show rgF s gs b = spT (bandsL s gs) b.toNat from if_pos HE.out)
      have HT := Lib.hid (show rgT s gs b = spT (bandsL s gs) (b.toNat + 1) from if_pos HE.out)
      rw [HE.out, HF.out, HT.out]
      obtain ⟨k, rfl⟩ := Int.eq_ofNat_of_zero_le hb.1
      have hk : k < ctN s gs := by omega
      rw [Int.toNat_natCast]
      have z0 : decide ((k : Int) < 0) = false := decide_eq_false (by omega)
      have z1 : decide (((ctN s gs : Nat) : Int) ≤ (k : Int)) = false := decide_eq_false (by omega)
      have z1n : decide (ctN s gs ≤ k) = false := decide_eq_false (by omega)
      generalize ctN s gs = C at *
      clear hb
      go_enter Tryd.func31, Tryd.ntmps31
      go_wp2_with fail
      refine HI.out.mono ?_
      rintro e w' ⟨rfl, rfl⟩
      go_wp2_with fail
      refine HB.out.mono ?_
      rintro e w2 ⟨v2, rfl, r2, u2⟩
      obtain ⟨g2, c2, rfl⟩ := row_slice r2 (by rw [HBl.out]; omega)
      have hc2 := row_cap r2
      have I2 := Lib.hid (Ints.ofRow r2 (by rw [HBl.out]; omega)); have U2 := Lib.hid u2
      rw [HBl.out] at I2 hc2 ⊢
      have hkc : k ≤ c2 := by omega
      clear r2 u2
      go_wp2_with fail
      go_loop [6, 31] (fun f i => ∃ j : Nat, j ≤ k ∧ i = .int .i64 j ∧ f = .int .i64 (spT (bandsL s gs) j)) (fun _ i => k - (intOf i).toNat)
      case atStart => exact ⟨0, Nat.zero_le _, rfl, rfl⟩
      case round =>
        obtain ⟨j, hj, rfl, rfl⟩ := hrel
        obtain ⟨f0, f8⟩ := BD.out j
        obtain ⟨x, hx⟩ : ∃ x, (bandsL s gs)[j]? = some x := ⟨_, List.getElem?_eq_getElem (by rw [HBl.out]; omega)⟩
        obtain ⟨bb, off, e, c0⟩ := I2.out.cellAt hx
        cases e
        rw [Nat.zero_add] at c0
        obtain ⟨x0, x8⟩ := HBb.out x (List.mem_of_getElem? hx)
        have HS := Lib.hid (spT_succ hx)
        by_cases hlt : j < k
        · generalize spT (bandsL s gs) j = f at *
          clear hx
          go_wp2_with fail
          go_round
          case rel => exact ⟨j + 1, by omega, by go_num, by rw [HS.out]⟩
          case measure => simp [intOf]; omega
        · obtain rfl : j = k := by omega
          have HFin := Lib.hid (show spT (bandsL s gs) (j + 1) = spT (bandsL s gs) j + x from HS.out)
          have y1 : IntKind.i64.wrap (spT (bandsL s gs) j + x) = spT (bandsL s gs) j + x := IntWalk.i64_in _ (by omega)
          have y2 : (j : Int) < (C : Int) := by omega
          clear hx hlt
          go_wp2_with fail
          go_quiet (fail)
          go_wp2_with fail
          go_ret3
          exact ⟨by rw [HFin.out]; rfl, upd_drewN U2.out _⟩
    · have hE : rgE s gs b = 6 := by rw [HE0.out, if_neg hb]
      obtain ⟨e1, e2⟩ := rg_bad hE (by decide)
      have HE := Lib.hid hE; have HF := Lib.hid e1; have HT := Lib.hid e2
      rw [HE.out, HF.out, HT.out]
      by_cases hb0 : b < 0
      · have z0 : decide (b < 0) = true := decide_eq_true hb0
        clear hb hb0 hE e1 e2
        go_enter Tryd.func31, Tryd.ntmps31
        go_wp2_with fail
        refine HI.out.mono ?_
        rintro e w' ⟨rfl, rfl⟩
        go_wp2_with fail
        refine HB.out.mono ?_
        rintro e w2 ⟨v2, rfl, r2, u2⟩
        obtain ⟨a2, c2, rfl⟩ := row_form r2
        have U2 := Lib.hid u2
        clear r2 u2
        go_wp2_with fail
        go_ret3
        exact ⟨rfl, U2.out⟩
      · have z0 : decide (b < 0) = false := decide_eq_false hb0
        have z1 : decide (((ctN s gs : Nat) : Int) ≤ b) = true := decide_eq_true (by omega)
        clear hb hb0 hE e1 e2
        go_enter Tryd.func31, Tryd.ntmps31
        go_wp2_with fail
        refine HI.out.mono ?_
        rintro e w' ⟨rfl, rfl⟩
        go_wp2_with fail
        refine HB.out.mono ?_
        rintro e w2 ⟨v2, rfl, r2, u2⟩
        obtain ⟨a2, c2, rfl⟩ := row_form r2
        have U2 := Lib.hid u2
        clear r2 u2
        rw [HBl.out]
        go_wp2_with fail
        go_ret3
        exact ⟨rfl, U2.out⟩
  | false =>
    have hE : rgE s gs b = 1 := if_neg (by rw [hd]; simp)
    obtain ⟨e1, e2⟩ := rg_bad hE (by decide)
    have HE := Lib.hid hE; have HF := Lib.hid e1; have HT := Lib.hid e2
    rw [HE.out, HF.out, HT.out]
    obtain ⟨a, cap, rfl⟩ := h.form
    rw [hd] at HI
    obtain ⟨L, hL⟩ : ∃ L, gs.length = L := ⟨_, rfl⟩
    rw [hL] at HI ⊢
    clear h hd hL hE e1 e2
    go_enter Tryd.func31, Tryd.ntmps31
    go_wp2_with fail
    refine HI.out.mono ?_
    rintro e w' ⟨rfl, rfl⟩
    go_wp2_with fail
    go_ret3
    exact ⟨rfl, Upd.refl _ _⟩
end Go.Proofs.YtaplmdkjoijcgaaDoor
