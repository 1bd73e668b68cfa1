/- bands: Range -/
import Derived.Test.YtaplmdkjoijcgaaDoorNH
namespace Go.Proofs.YtaplmdkjoijcgaaDoor
open Go.RowKit Go.Shelf

def rgE (s : Bool) (gs : List Int) (b : Int) : Int := if isD s gs then (if 0 ≤ b ∧ b < (ctN s gs : Nat) then 0 else 6) else 1
def rgF (s : Bool) (gs : List Int) (b : Int) : Int := if rgE s gs b = 0 then spT (bandsL s gs) b.toNat else 0
def rgT (s : Bool) (gs : List Int) (b : Int) : Int := if rgE s gs b = 0 then spT (bandsL s gs) (b.toNat + 1) else 0
theorem rg_bad {s : Bool} {gs : List Int} {b E : Int} (h : rgE s gs b = E) (hE : E ≠ 0) : rgF s gs b = 0 ∧ rgT s gs b = 0 := by
  unfold rgF rgT
  rw [if_neg (by rw [h]; exact hE), if_neg (by rw [h]; exact hE)]
  exact ⟨rfl, rfl⟩
set_option maxRecDepth 100000 in
set_option maxHeartbeats 4000000 in
theorem Range_any (b : Int) (s : Bool) (v : Value) (gs : List Int) (w : World) (h : Ints w v gs) (hg : Gv w) :
    Calls Tryd.prog 30 #[.int .i64 b, .bool s, v] w fun e w' => e = .returned (.tuple #[.int .i64 (rgF s gs b), .int .i64 (rgT s gs b), .int .i64 (rgE s gs b)]) ∧ Upd NoB w w' := by
  have HD := Lib.hid (divisionOf_any s v gs w h hg)
  obtain ⟨a, cap, rfl⟩ := h.form
  cases hd : isD s gs with
  | true =>
    have HBg := Lib.hid (dG_bd hd)
    have HDd := Lib.hid hd
    have HE0 := Lib.hid (show rgE s gs b = if 0 ≤ b ∧ b < (ctN s gs : Nat) then 0 else 6 from if_pos hd)
    have HBb := Lib.hid (bands_bd hd); have HBl := Lib.hid (ctN_bands s gs); have hct := ctN_le hd
    have HBW := Lib.hid (show bwL (dW s) (dG s gs) = bandsL s gs from rfl)
    have HCt := Lib.hid (show ((dG s gs).length : Int) * ((dW s).length : Int) = ((ctN s gs : Nat) : Int) by unfold ctN; rw [Int.natCast_mul])
    obtain ⟨L, hL⟩ : ∃ L, gs.length = L := ⟨_, rfl⟩
    rw [hL] at HD ⊢
    clear h hg hd hL
    by_cases hb : 0 ≤ b ∧ b < (ctN s gs : Nat)
    · have HE := Lib.hid (show rgE s gs b = 0 by rw [HE0.out, if_pos hb])
      have HF := Lib.hid (show rgF s gs b = spT (bandsL s gs) b.toNat from if_pos HE.out)
      have HT := Lib.hid (show rgT s gs b = spT (bandsL s gs) (b.toNat + 1) from if_pos HE.out)
      rw [HE.out, HF.out, HT.out]
      obtain ⟨k, rfl⟩ := Int.eq_ofNat_of_zero_le hb.1
      have hk : k < ctN s gs := by omega
      rw [Int.toNat_natCast]
      obtain ⟨f, hf⟩ : ∃ f, spT (bandsL s gs) k = f := ⟨_, rfl⟩
      obtain ⟨t, ht⟩ : ∃ t, spT (bandsL s gs) (k + 1) = t := ⟨_, rfl⟩
      have HFf := Lib.hid hf; have HTt := Lib.hid ht
      rw [hf, ht]
      clear hf ht
      have HDec := Lib.hid (show decide (0 ≤ (k : Int) ∧ (k : Int) < ((ctN s gs : Nat) : Int)) = true from decide_eq_true hb)
      generalize ctN s gs = C at *
      clear hb
      go_enter Tryd.func30, Tryd.ntmps30
      go_wp2_with fail
      refine HD.out.mono ?_
      intro e w1 hr
      unfold DRes at hr
      rw [if_pos HDd.out] at hr
      obtain ⟨vw, vg, rfl, iw, ig, u1⟩ := hr
      obtain ⟨aw, cw, rfl⟩ := iw.form
      obtain ⟨ag, cg, rfl⟩ := ig.form
      have IW := Lib.hid iw; have IG := Lib.hid ig; have U1 := Lib.hid u1
      clear iw ig u1
      go_wp2_with fail
      refine (has_any _ _ _ (dW s).length (dG s gs).length _ _ _ _ (by have := (dW_bd s).1; omega) (by have := HBg.out.1; omega)).mono ?_
      rw [HCt.out, HDec.out]
      rintro e w2 ⟨rfl, u2⟩
      have hb2 := u2.heap (heap_alloc_new w1 _) (noB _)
      have e0 := blk_cell hb2 0
      have e1 := blk_cell hb2 1
      have e2 := blk_cell hb2 2
      have U12 := Lib.hid (((Upd.refl NoB w1).alloc _).then u2)
      clear u2 hb2
      go_wp2_with fail
      refine (bandWidths_any (dLn s) _ _ (dW s) (dG s gs) w2 (IW.out.later U12.out) (IG.out.later U12.out) (dW_bd s) HBg.out).mono ?_
      rw [HBW.out]
      rintro e w3 ⟨v3, rfl, r3, u3⟩
      obtain ⟨a3, c3, rfl⟩ := row_form r3
      have I3 := Lib.hid (Ints.ofRow r3 (by rw [HBl.out]; omega)); have U13 := Lib.hid (U12.out.then u3)
      clear r3 u3 e0 e1 e2
      go_wp2_with fail
      refine (spans_any _ (bandsL s gs) w3 I3.out (by rw [HBl.out]; omega) HBb.out).mono ?_
      rintro e w4 ⟨v4, rfl, r4, u4⟩
      rw [HBl.out] at r4
      obtain ⟨g4, c4, rfl⟩ := row_slice r4 (by omega)
      have U14 := Lib.hid (U13.out.then u4)
      have hlen := spC_length (bandsL s gs) C
      obtain ⟨s1, s2⟩ := spC_get (ws := bandsL s gs) hk
      have d0 := r4.cellAt (2 * k) (by omega)
      have d1 := r4.cellAt (2 * k + 1) (by omega)
      rw [s1] at d0
      rw [s2] at d1
      rw [Nat.mul_comm] at d0 d1
      rw [HFf.out] at d0
      rw [HTt.out] at d1
      clear u4 hlen s1 s2
      go_wp2_with fail
      go_quiet (fail)
      go_wp2_with fail
      go_ret3
      exact ⟨rfl, upd_drewN ((U1.out.then U14.out).alloc _) _⟩
    · have hE : rgE s gs b = 6 := by rw [HE0.out, if_neg hb]
      obtain ⟨e1, e2⟩ := rg_bad hE (by decide)
      have HE := Lib.hid hE; have HF := Lib.hid e1; have HT := Lib.hid e2
      rw [HE.out, HF.out, HT.out]
      have HDec := Lib.hid (show decide (0 ≤ b ∧ b < ((ctN s gs : Nat) : Int)) = false from decide_eq_false hb)
      generalize ctN s gs = C at *
      clear hb hE e1 e2
      go_enter Tryd.func30, Tryd.ntmps30
      go_wp2_with fail
      refine HD.out.mono ?_
      intro e w1 hr
      unfold DRes at hr
      rw [if_pos HDd.out] at hr
      obtain ⟨vw, vg, rfl, iw, ig, u1⟩ := hr
      obtain ⟨aw, cw, rfl⟩ := iw.form
      obtain ⟨ag, cg, rfl⟩ := ig.form
      have U1 := Lib.hid u1
      clear iw ig u1
      go_wp2_with fail
      refine (has_any _ _ _ (dW s).length (dG s gs).length _ _ _ _ (by have := (dW_bd s).1; omega) (by have := HBg.out.1; omega)).mono ?_
      rw [HCt.out, HDec.out]
      rintro e w2 ⟨rfl, u2⟩
      have U12 := Lib.hid (((Upd.refl NoB w1).alloc _).then u2)
      clear u2
      go_wp2_with fail
      go_ret3
      exact ⟨rfl, U1.out.then U12.out⟩
  | false =>
    have hE : rgE s gs b = 1 := if_neg (by rw [hd]; simp)
    obtain ⟨e1, e2⟩ := rg_bad hE (by decide)
    have HE := Lib.hid hE; have HF := Lib.hid e1; have HT := Lib.hid e2
    rw [HE.out, HF.out, HT.out]
    have HDd := Lib.hid (show ¬ isD s gs = true by rw [hd]; simp)
    obtain ⟨L, hL⟩ : ∃ L, gs.length = L := ⟨_, rfl⟩
    rw [hL] at HD ⊢
    clear h hg hd hL hE e1 e2
    go_enter Tryd.func30, Tryd.ntmps30
    go_wp2_with fail
    refine HD.out.mono ?_
    intro e w1 hr
    unfold DRes at hr
    rw [if_neg HDd.out] at hr
    obtain ⟨rfl, u1⟩ := hr
    have U1 := Lib.hid u1
    clear u1
    go_wp2_with fail
    go_ret3
    exact ⟨rfl, U1.out.alloc _⟩
end Go.Proofs.YtaplmdkjoijcgaaDoor
