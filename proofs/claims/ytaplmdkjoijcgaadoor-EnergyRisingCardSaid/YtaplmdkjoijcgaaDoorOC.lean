/- bands: Pitch of the reference -/
import Derived.Test.YtaplmdkjoijcgaaDoorOB
namespace Go.Proofs.YtaplmdkjoijcgaaDoor
open Go.RowKit Go.Shelf

theorem ptJ_long {gs : List Int} {k : Nat} (h : k < ctN false gs) : ptJ false (k : Int) = k := by
  unfold ptJ
  rw [Int.toNat_natCast]
  have : ctN false gs = 15 := rfl
  exact Nat.mod_eq_of_lt (by show k < 15; omega)
set_option maxRecDepth 100000 in
set_option maxHeartbeats 4000000 in
theorem rPitch_any (r b : Int) (s : Bool) (v : Value) (gs : List Int) (w : World) (h : Ints w v gs) :
    Calls Tryd.prog 33 #[.int .i64 r, .int .i64 b, .bool s, v] w fun e w' => e = .returned (.tuple #[.int .i64 (ptS s gs r b), .int .i64 (ptE s gs r b)]) ∧ Upd NoB w w' := by
  have HI := Lib.hid (rIs_any s v gs w h)
  cases hd : isD s gs with
  | true =>
    have HB := Lib.hid (fun w' (u : Upd NoB w w') => rBands_any s v gs w' (h.later u) hd)
    have HE0 := Lib.hid (show ptE s gs r b = if rateB r then (if 0 ≤ b ∧ b < (ctN s gs : Nat) then 0 else 6) else 1 from if_pos hd)
    have HBl := Lib.hid (ctN_bands s gs); have hct := ctN_le hd
    obtain ⟨a, cap, rfl⟩ := h.form
    rw [hd] at HI
    obtain ⟨L, hL⟩ : ∃ L, gs.length = L := ⟨_, rfl⟩
    rw [hL] at HI HB ⊢
    clear h hd hL
    cases hr : rateB r with
    | true =>
      have HRt := Lib.hid hr
      by_cases hb : 0 ≤ b ∧ b < (ctN s gs : Nat)
      · have HE := Lib.hid (show ptE s gs r b = 0 by rw [HE0.out, if_pos hr, if_pos hb])
        have HF := Lib.hid (show ptS s gs r b = ptV s r (ptJ s b) from if_pos HE.out)
        rw [HE.out, HF.out]
        obtain ⟨k, rfl⟩ := Int.eq_ofNat_of_zero_le hb.1
        have hkc : k < ctN s gs := by omega
        have z0 : decide ((k : Int) < 0) = false := decide_eq_false (by omega)
        have z1 : decide (((ctN s gs : Nat) : Int) ≤ (k : Int)) = false := decide_eq_false (by omega)
        have z1n : decide (ctN s gs ≤ k) = false := decide_eq_false (by omega)
        have hrb := rateB_bd hr
        have HJl := Lib.hid (fun (h : s = false) => show ptJ s (k : Int) = k by subst h; exact ptJ_long (gs := gs) hkc)
        have HJs := Lib.hid (fun (h : s = true) => show ptJ s (k : Int) = k % 4 by subst h; rfl)
        have hk120 : k < 120 := by omega
        generalize ctN s gs = C at *
        cases s with
        | false =>
          have hk15 : k < 15 := by
            have h1 := HJl.out rfl
            have : ptJ false (k : Int) < 15 := by unfold ptJ; exact Nat.mod_lt _ (by decide)
            omega
          rw [HJl.out rfl]
          obtain ⟨j, hjk⟩ : ∃ j, k = j := ⟨_, rfl⟩
          subst hjk
          obtain ⟨x, hx⟩ : ∃ x, lwL[k]? = some x := ⟨_, List.getElem?_eq_getElem (by show k < 15; omega)⟩
          have hbd0 := spT_bd (ws := lwL) (fun x hx => by have := dW_bd2 false x hx; omega) k
          have hxb := dW_bd2 false x (List.mem_of_getElem? hx)
          have hS := spT_succ hx
          have HV := Lib.hid (show ptV false r k = ((spT lwL k + spT lwL (k + 1)) * r).tdiv (4 * 128) from rfl)
          have hsum : 2 * spT lwL k + x = spT lwL k + spT lwL (k + 1) := by omega
          have hpb := pt_bd (f := spT lwL k) (t := spT lwL (k + 1)) (r := r) (ln := 128) ⟨hbd0.1, by omega⟩ ⟨by omega, by omega⟩ hrb (by omega)
          rw [← hsum] at HV hpb
          have BD := Lib.hid (fun j => spT_bd (ws := lwL) (fun x hx => by have := dW_bd2 false x hx; omega) j)
          have HX := Lib.hid hx
          have HHp := Lib.hid hpb
          obtain ⟨x0, x8⟩ := hxb
          obtain ⟨r0, r8⟩ := hrb
          clear hb hr hpb hsum hS hbd0 hx hkc
          go_enter Tryd.func33, Tryd.ntmps33
          go_wp2_with fail
          refine HI.out.mono ?_
          rintro e w' ⟨rfl, rfl⟩
          go_wp2_with fail
          refine (rRate_any r _).mono ?_
          rw [HRt.out]
          rintro e w2 ⟨rfl, u2⟩
          have U2 := Lib.hid u2
          clear u2
          go_wp2_with fail
          refine (HB.out w2 U2.out).mono ?_
          rintro e w3 ⟨v3, rfl, r3, u3⟩
          obtain ⟨a3, c3, rfl⟩ := row_form r3
          have U3 := Lib.hid (U2.out.then u3)
          clear r3 u3
          rw [HBl.out]
          go_wp2_with fail
          refine (rlong_any w3).mono ?_
          rintro e w4 ⟨v4, rfl, r4, u4⟩
          obtain ⟨g4, c4, rfl⟩ := row_slice r4 (by decide)
          have hc4 := row_cap r4
          have I4 := Lib.hid (Ints.ofRow r4 (by decide)); have U4 := Lib.hid (U3.out.then u4)
          rw [show lwL.length = 15 from rfl] at I4 hc4 ⊢
          have hkc4 : k ≤ c4 := by omega
          clear r4 u4
          go_wp2_with fail
          go_loop [12, 43] (fun f i => ∃ q : Nat, q ≤ k ∧ i = .int .i64 q ∧ f = .int .i64 (spT lwL q)) (fun _ i => k - (intOf i).toNat)
          case atStart => exact ⟨0, Nat.zero_le _, rfl, rfl⟩
          case round =>
            obtain ⟨q, hq, rfl, rfl⟩ := hrel
            obtain ⟨f0, f8⟩ := BD.out q
            by_cases hlt : q < k
            · obtain ⟨y, hy⟩ : ∃ y, lwL[q]? = some y := ⟨_, List.getElem?_eq_getElem (by show q < 15; omega)⟩
              obtain ⟨bb, off, e, c0⟩ := I4.out.cellAt hy
              cases e
              rw [Nat.zero_add] at c0
              obtain ⟨y0, y8⟩ := dW_bd2 false y (List.mem_of_getElem? hy)
              have HS := Lib.hid (spT_succ hy)
              generalize spT lwL q = f at *
              clear hy
              go_wp2_with fail
              go_round
              case rel => exact ⟨q + 1, by omega, by go_num, by rw [HS.out]⟩
              case measure => simp [intOf]; omega
            · obtain rfl : q = k := by omega
              obtain ⟨bb, off, e, c0⟩ := I4.out.cellAt HX.out
              cases e
              rw [Nat.zero_add] at c0
              have hpb := HHp.out
              generalize spT lwL q = f at *
              obtain ⟨p, hp⟩ : ∃ p, (2 * f + x) * r = p := ⟨_, rfl⟩
              rw [hp] at hpb
              obtain ⟨V, hV⟩ : ∃ V, p.tdiv (4 * 128) = V := ⟨_, rfl⟩
              have HVe := Lib.hid (show ptV false r q = V by rw [HV.out, hp, hV])
              have hV' : p.tdiv 512 = V := hV
              rw [hV] at hpb
              have y1 : IntKind.i64.wrap ((2 * f + x) * r) = p := by rw [hp]; exact IntWalk.i64_in _ (by omega)
              have y2 : wrap64 ((2 * f + x) * r) = p := by rw [hp]; exact IntWalk.wrap64_in _ (by omega)
              have y3 : IntKind.i64.wrap V = V := IntWalk.i64_in _ (by omega)
              have y4 : wrap64 V = V := IntWalk.wrap64_in _ (by omega)
              clear hp hV hpb hlt
              go_wp2_with fail
              go_ret2
              exact ⟨by rw [HVe.out]; rfl, U4.out⟩
        | true =>
          rw [HJs.out rfl]
          have hrem : (k : Int).tmod 4 = ((k % 4 : Nat) : Int) := by rw [Int.tmod_eq_emod_of_nonneg (by omega)]; rfl
          have hk15 : k % 4 < 4 := Nat.mod_lt _ (by decide)
          obtain ⟨j, hjk⟩ : ∃ j, k % 4 = j := ⟨_, rfl⟩
          rw [hjk] at hrem hk15 ⊢
          obtain ⟨x, hx⟩ : ∃ x, swL[j]? = some x := ⟨_, List.getElem?_eq_getElem (by show j < 4; omega)⟩
          have hbd0 := spT_bd (ws := swL) (fun x hx => by have := dW_bd2 true x hx; omega) j
          have hxb := dW_bd2 true x (List.mem_of_getElem? hx)
          have hS := spT_succ hx
          have HV := Lib.hid (show ptV true r j = ((spT swL j + spT swL (j + 1)) * r).tdiv (4 * 16) from rfl)
          have hsum : 2 * spT swL j + x = spT swL j + spT swL (j + 1) := by omega
          have hpb := pt_bd (f := spT swL j) (t := spT swL (j + 1)) (r := r) (ln := 16) ⟨hbd0.1, by omega⟩ ⟨by omega, by omega⟩ hrb (by omega)
          rw [← hsum] at HV hpb
          have BD := Lib.hid (fun j => spT_bd (ws := swL) (fun x hx => by have := dW_bd2 true x hx; omega) j)
          have HX := Lib.hid hx
          have HHp := Lib.hid hpb
          obtain ⟨x0, x8⟩ := hxb
          obtain ⟨r0, r8⟩ := hrb
          clear hb hr hpb hsum hS hbd0 hx hkc
          go_enter Tryd.func33, Tryd.ntmps33
          go_wp2_with fail
          refine HI.out.mono ?_
          rintro e w' ⟨rfl, rfl⟩
          go_wp2_with fail
          refine (rRate_any r _).mono ?_
          rw [HRt.out]
          rintro e w2 ⟨rfl, u2⟩
          have U2 := Lib.hid u2
          clear u2
          go_wp2_with fail
          refine (HB.out w2 U2.out).mono ?_
          rintro e w3 ⟨v3, rfl, r3, u3⟩
          obtain ⟨a3, c3, rfl⟩ := row_form r3
          have U3 := Lib.hid (U2.out.then u3)
          clear r3 u3
          rw [HBl.out]
          go_wp2_with fail
          refine (rlong_any w3).mono ?_
          rintro e w4 ⟨v4, rfl, r4, u4⟩
          obtain ⟨g4, c4, rfl⟩ := row_slice r4 (by decide)
          have hc4 := row_cap r4
          have I4 := Lib.hid (Ints.ofRow r4 (by decide)); have U4 := Lib.hid (U3.out.then u4)
          rw [show lwL.length = 15 from rfl] at I4 hc4 ⊢
          have hkc4 : 0 ≤ c4 := by omega
          clear r4 u4
          go_wp2_with fail
          refine (rshort_any w4).mono ?_
          rintro e w5 ⟨v5, rfl, r5, u5⟩
          obtain ⟨g5, c5, rfl⟩ := row_slice r5 (by decide)
          have hc5 := row_cap r5
          have I5 := Lib.hid (Ints.ofRow r5 (by decide)); have U5 := Lib.hid (U4.out.then u5)
          rw [show swL.length = 4 from rfl] at I5 hc5 ⊢
          have hkc5 : j ≤ c5 := by omega
          clear r5 u5
          go_wp2_with fail
          go_loop [12, 43] (fun f i => ∃ q : Nat, q ≤ j ∧ i = .int .i64 q ∧ f = .int .i64 (spT swL q)) (fun _ i => j - (intOf i).toNat)
          case atStart => exact ⟨0, Nat.zero_le _, rfl, rfl⟩
          case round =>
            obtain ⟨q, hq, rfl, rfl⟩ := hrel
            obtain ⟨f0, f8⟩ := BD.out q
            by_cases hlt : q < j
            · obtain ⟨y, hy⟩ : ∃ y, swL[q]? = some y := ⟨_, List.getElem?_eq_getElem (by show q < 4; omega)⟩
              obtain ⟨bb, off, e, c0⟩ := I5.out.cellAt hy
              cases e
              rw [Nat.zero_add] at c0
              obtain ⟨y0, y8⟩ := dW_bd2 true y (List.mem_of_getElem? hy)
              have HS := Lib.hid (spT_succ hy)
              generalize spT swL q = f at *
              clear hy
              go_wp2_with fail
              go_round
              case rel => exact ⟨q + 1, by omega, by go_num, by rw [HS.out]⟩
              case measure => simp [intOf]; omega
            · obtain rfl : q = j := by omega
              obtain ⟨bb, off, e, c0⟩ := I5.out.cellAt HX.out
              cases e
              rw [Nat.zero_add] at c0
              have hpb := HHp.out
              generalize spT swL q = f at *
              obtain ⟨p, hp⟩ : ∃ p, (2 * f + x) * r = p := ⟨_, rfl⟩
              rw [hp] at hpb
              obtain ⟨V, hV⟩ : ∃ V, p.tdiv (4 * 16) = V := ⟨_, rfl⟩
              have HVe := Lib.hid (show ptV true r q = V by rw [HV.out, hp, hV])
              have hV' : p.tdiv 64 = V := hV
              rw [hV] at hpb
              have y1 : IntKind.i64.wrap ((2 * f + x) * r) = p := by rw [hp]; exact IntWalk.i64_in _ (by omega)
              have y2 : wrap64 ((2 * f + x) * r) = p := by rw [hp]; exact IntWalk.wrap64_in _ (by omega)
              have y3 : IntKind.i64.wrap V = V := IntWalk.i64_in _ (by omega)
              have y4 : wrap64 V = V := IntWalk.wrap64_in _ (by omega)
              clear hp hV hpb hlt
              go_wp2_with fail
              go_ret2
              exact ⟨by rw [HVe.out]; rfl, U5.out⟩
      · -- bad band
        have HE := Lib.hid (show ptE s gs r b = 6 by rw [HE0.out, if_pos hr, if_neg hb])
        have HF := Lib.hid (show ptS s gs r b = 0 from if_neg (by rw [HE.out]; decide))
        rw [HE.out, HF.out]
        by_cases hb0 : b < 0
        · have z0 : decide (b < 0) = true := decide_eq_true hb0
          clear hb hr hb0
          go_enter Tryd.func33, Tryd.ntmps33
          go_wp2_with fail
          refine HI.out.mono ?_
          rintro e w' ⟨rfl, rfl⟩
          go_wp2_with fail
          refine (rRate_any r _).mono ?_
          rw [HRt.out]
          rintro e w2 ⟨rfl, u2⟩
          have U2 := Lib.hid u2
          clear u2
          go_wp2_with fail
          go_ret2
          exact ⟨rfl, U2.out⟩
        · have z0 : decide (b < 0) = false := decide_eq_false hb0
          have z1 : decide (((ctN s gs : Nat) : Int) ≤ b) = true := decide_eq_true (by omega)
          generalize ctN s gs = C at *
          clear hb hr hb0
          go_enter Tryd.func33, Tryd.ntmps33
          go_wp2_with fail
          refine HI.out.mono ?_
          rintro e w' ⟨rfl, rfl⟩
          go_wp2_with fail
          refine (rRate_any r _).mono ?_
          rw [HRt.out]
          rintro e w2 ⟨rfl, u2⟩
          have U2 := Lib.hid u2
          clear u2
          go_wp2_with fail
          refine (HB.out w2 U2.out).mono ?_
          rintro e w3 ⟨v3, rfl, r3, u3⟩
          obtain ⟨a3, c3, rfl⟩ := row_form r3
          have U3 := Lib.hid (U2.out.then u3)
          clear r3 u3
          rw [HBl.out]
          go_wp2_with fail
          go_ret2
          exact ⟨rfl, U3.out⟩
    | false =>
      have HE := Lib.hid (show ptE s gs r b = 1 by rw [HE0.out, if_neg (by rw [hr]; decide)])
      have HF := Lib.hid (show ptS s gs r b = 0 from if_neg (by rw [HE.out]; decide))
      have HRt := Lib.hid hr
      rw [HE.out, HF.out]
      clear hr
      go_enter Tryd.func33, Tryd.ntmps33
      go_wp2_with fail
      refine HI.out.mono ?_
      rintro e w' ⟨rfl, rfl⟩
      go_wp2_with fail
      refine (rRate_any r _).mono ?_
      rw [HRt.out]
      rintro e w2 ⟨rfl, u2⟩
      have U2 := Lib.hid u2
      clear u2
      go_wp2_with fail
      go_ret2
      exact ⟨rfl, U2.out⟩
  | false =>
    have hE : ptE s gs r b = 1 := if_neg (by rw [hd]; simp)
    have HE := Lib.hid hE; have HF := Lib.hid (show ptS s gs r b = 0 from if_neg (by rw [hE]; decide))
    rw [HE.out, HF.out]
    obtain ⟨a, cap, rfl⟩ := h.form
    rw [hd] at HI
    obtain ⟨L, hL⟩ : ∃ L, gs.length = L := ⟨_, rfl⟩
    rw [hL] at HI ⊢
    clear h hd hL hE
    go_enter Tryd.func33, Tryd.ntmps33
    go_wp2_with fail
    refine HI.out.mono ?_
    rintro e w' ⟨rfl, rfl⟩
    go_wp2_with fail
    go_ret2
    exact ⟨rfl, Upd.refl _ _⟩
end Go.Proofs.YtaplmdkjoijcgaaDoor
