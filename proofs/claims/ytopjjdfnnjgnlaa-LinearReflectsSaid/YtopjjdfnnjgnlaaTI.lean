/- linear: the weights of a filter -/
import Derived.Test.YtopjjdfnnjgnlaaTH
namespace Go.Proofs.Ytopjjdfnnjgnlaa
open Go.RowKit Go.Shelf

theorem reverseR_any (base : Nat) (v : Value) (xs : List Int) (w : World) (h : w.ownsRow base 3 1 v xs.length (i64s xs)) (hl : xs.length ≤ 8192) :
    Calls Try.prog 107 #[v] w fun e w' => e = .returned (.tuple #[]) ∧ w'.ownsRow base 3 1 v xs.length (i64s xs.reverse) ∧ Upd (fun k => base ≤ k) w w' := by
  by_cases h0 : xs.length = 0
  · obtain rfl := List.eq_nil_of_length_eq_zero h0
    obtain ⟨a, c, e⟩ := row_form h
    refine (reverse0_any v w ⟨a, c, e⟩).mono ?_
    rintro e w' ⟨rfl, rfl⟩
    exact ⟨rfl, h, Upd.refl _ _⟩
  · obtain ⟨G, c, rfl⟩ := row_slice h (by omega)
    obtain ⟨o, hb, hc⟩ := OwnR.of h
    refine (reverse_any G c xs w o (by omega) hl).mono ?_
    rintro e w' ⟨rfl, o', u⟩
    have hr := o'.row hb hc
    rw [List.length_reverse] at hr
    exact ⟨rfl, hr, u.mono (fun k _ e => by have e : k = G := e; show base ≤ k; omega)⟩
theorem wtStep_get (a : List Int) (k : Int) (p : Nat) (h : p < a.length) : (wtStep a k).getD p 0 = a.getD p 0 + rnd (k * a.getD (a.length - 1 - p) 0) 128 := by
  unfold wtStep
  rw [List.getD_eq_getElem?_getD, List.getElem?_append_left (by simp; omega), List.getElem?_map, List.getElem?_range h]
  rfl
theorem wtStep_last (a : List Int) (k : Int) : (wtStep a k).getD a.length 0 = 32 * k := by
  unfold wtStep
  rw [List.getD_eq_getElem?_getD, List.getElem?_append_right (by simp)]
  simp
theorem wtStep_of {a ys : List Int} {k : Int} (hl : ys.length = a.length) (h : ∀ p, p < a.length → ys.getD p 0 = a.getD p 0 + rnd (k * a.getD (a.length - 1 - p) 0) 128) : ys ++ [32 * k] = wtStep a k := by
  refine ext_getD (by rw [List.length_append, wtStep_len, hl]; rfl) fun p hp => ?_
  rw [List.length_append, hl] at hp
  have hp' : p < a.length + 1 := hp
  by_cases e : p < a.length
  · rw [wtStep_get a k p e, ← h p e, List.getD_eq_getElem?_getD, List.getElem?_append_left (by omega), ← List.getD_eq_getElem?_getD]
  · obtain rfl : p = a.length := by omega
    rw [wtStep_last, List.getD_eq_getElem?_getD, List.getElem?_append_right (by omega), hl, Nat.sub_self]
    rfl
set_option maxRecDepth 100000 in
set_option maxHeartbeats 8000000 in
theorem step_any (B base : Nat) (v : Value) (k : Int) (ws : List Int) (w : World) (hb : w.heap[B]? = some (.cells #[v] 22 (0, 0))) (hr : w.ownsRow base 3 1 v ws.length (i64s ws)) (hB : B < base) (hbs : base ≤ w.heap.size)
    (hl : ws.length ≤ 12) (hk : -127 ≤ k ∧ k ≤ 127) (hin : inM 16777216 ws = true) :
    Calls Try.prog 106 #[.int .i64 k, .pointer (some ⟨B, 0, none⟩)] w fun e w' => e = .returned (.tuple #[]) ∧ ∃ v', w'.heap[B]? = some (.cells #[v'] 22 (0, 0)) ∧ w'.ownsRow base 3 1 v' (ws.length + 1) (i64s (wtStep ws k)) ∧ Upd (fun j => j = B ∨ base ≤ j) w w' := by
  have hI : Ints w v ws := Ints.ofRow hr (by omega)
  have HCl := Lib.hid (iclone_any v ws w hI)
  have HGd := Lib.hid (fun p => getD_in (by decide) hin p)
  have HFin := Lib.hid (fun ys => wtStep_of (a := ws) (ys := ys) (k := k))
  have HBb := Lib.hid hb; have HRr := Lib.hid hr
  have HRv := Lib.hid (fun p hp => rev_getD ws p hp)
  have HRl := Lib.hid (show ws.reverse.length = ws.length from List.length_reverse)
  obtain ⟨va, vc, rfl⟩ := row_form hr
  have c0 := blk_cell hb 0
  have m1 : wrap64 (32 * k) = 32 * k := IntWalk.wrap64_in _ (by omega)
  have m2 : IntKind.i64.wrap (32 * k) = 32 * k := IntWalk.i64_in _ (by omega)
  obtain ⟨L, hL⟩ : ∃ L, ws.length = L := ⟨_, rfl⟩
  have HL := Lib.hid hL
  rw [hL] at hl HRr HFin HRv HRl c0 HBb HCl ⊢
  have HBl := Lib.hid (lt_of_block hb)
  clear hL hb hr hI hin
  go_enter Try.func106, Try.ntmps106
  go_wp2_with fail
  refine HCl.out.mono ?_
  rintro e w1 ⟨sb, rfl, r1, u1⟩
  rw [HL.out] at r1
  have HRev := Lib.hid (by
    have := reverseR_any w.heap.size sb ws w1 (by rw [HL.out]; exact r1) (by rw [HL.out]; omega)
    rw [HL.out] at this
    exact this)
  obtain ⟨ba, bc, rfl⟩ := row_form r1
  have U1 := Lib.hid u1
  clear r1 u1
  go_wp2_with fail
  refine HRev.out.mono ?_
  rintro e w2 ⟨rfl, r2, u2⟩
  have R2 := Lib.hid r2
  have U2 := Lib.hid (show Upd NoB w w2 from U1.out.trans u2 (fun j hj e => by have e : w.heap.size ≤ j := e; exfalso; omega))
  clear r2 u2 U1
  go_wp2_with fail
  go_loopw [12] (fun i wr => ∃ (p : Nat) (ys : List Int), p ≤ L ∧ i = .int .i64 (p : Int) ∧ wr.ownsRow base 3 1 (.slice va L vc) L (i64s ys) ∧ ys.length = L ∧ (∀ t, t < L → ys.getD t 0 = if t < p then ws.getD t 0 + rnd (k * ws.getD (L - 1 - t) 0) 128 else ws.getD t 0) ∧ wr.ownsRow w.heap.size 3 1 (.slice ba L bc) L (i64s ws.reverse) ∧ wr.heap[B]? = some (.cells #[.slice va L vc] 22 (0, 0)) ∧ Upd (fun j => base ≤ j) w wr ∧ w.heap.size ≤ wr.heap.size) (fun i _ => L - (intOf i).toNat)
  case atStart => exact ⟨0, ws, Nat.zero_le _, rfl, U2.out.row HRr.out (fun j _ => noB j), HL.out, fun t ht => by rw [if_neg (by omega)], R2.out, U2.out.heap HBb.out (noB _), U2.out.mono (fun _ _ h => h.elim), U2.out.size⟩
  case round =>
    obtain ⟨p, ys, hp, rfl, hrow, hyl, hys, hrv, hbx, hu, hws⟩ := hrel
    have HRw := Lib.hid hrow; have HRvr := Lib.hid hrv; have HBx := Lib.hid hbx; have HU := Lib.hid hu; have HYl := Lib.hid hyl; have HYs := Lib.hid hys
    have d0 := blk_cell hbx 0
    have fB := blk_free hbx 0
    by_cases hlt : p < L
    · have hpi : (p : Int) < (L : Int) := by omega
      have iv : Ints wr (.slice ba L bc) ws.reverse := by
        have := Ints.ofRow (xs := ws.reverse) (by rw [HRl.out]; exact hrv) (by rw [HRl.out]; omega)
        exact this
      obtain ⟨x, hx⟩ : ∃ x, ws.reverse[p]? = some x := ⟨_, List.getElem?_eq_getElem (by rw [HRl.out]; exact hlt)⟩
      obtain ⟨b2, o2, hba, c2⟩ := iv.cellAt hx
      have hxv : ws.getD (L - 1 - p) 0 = x := by
        have := HRv.out p hlt
        rw [List.getD_eq_getElem?_getD, hx] at this
        exact this.symm
      obtain ⟨G, gc, hG⟩ := row_slice hrow (by omega)
      injection hG with hva _ hvc
      subst hva; subst hvc
      have hrow' := hrow
      obtain ⟨o, hbG, hcG⟩ := OwnR.of (xs := ys) (by rw [hyl]; exact hrow)
      obtain ⟨c3, f3⟩ := o.cell (k := p) (by omega)
      have hyp := hys p hlt
      rw [if_neg (by omega)] at hyp
      have hXb := HGd.out (L - 1 - p)
      have hYb := HGd.out p
      rw [hxv] at hXb
      rw [← hyp] at hYb
      have hmb := mul_in hk hXb
      have hrb := rnd_in (by decide) hmb
      have HRd := Lib.hid (fun V => lround_any (k * x) 128 V (rat_ok (by decide) (by decide) (by omega) (by omega)))
      have HNp := Lib.hid (show ys.getD p 0 + rnd (k * x) 128 = ws.getD p 0 + rnd (k * ws.getD (L - 1 - p) 0) 128 by rw [hyp, hxv])
      generalize ys.getD p 0 = Y at *
      obtain ⟨q, hq⟩ : ∃ q, k * x = q := ⟨_, rfl⟩
      rw [hq] at hmb hrb HRd HNp
      generalize rnd q 128 = R at *
      have z1 : wrap64 (k * x) = q := by rw [hq]; exact IntWalk.wrap64_in _ (by omega)
      have z2 : IntKind.i64.wrap (k * x) = q := by rw [hq]; exact IntWalk.i64_in _ (by omega)
      have z3 : wrap64 (Y + R) = Y + R := IntWalk.wrap64_in _ (by omega)
      have z4 : IntKind.i64.wrap (Y + R) = Y + R := IntWalk.i64_in _ (by omega)
      have HO := Lib.hid o; have HbG := Lib.hid hbG; have HcG := Lib.hid hcG
      have e0 : wr.drew.cell? ⟨B, 0, none⟩ = some (.slice (some ⟨G, 0, none⟩) L vc) := d0
      have e3 : wr.drew.cell? ⟨G, p, none⟩ = some (.int .i64 Y) := c3
      have g3 : wr.drew.frozen? ⟨G, p, none⟩ = false := f3
      subst hba
      clear hrow hrow' hyl hys hrv hbx hu hx hxv hyp hXb hYb hmb hrb hq o hbG hcG iv
      go_wp2
      refine wp_region_still_tail 10 (by kernel_rfl) (by kernel_rfl) ?_
      simp only [List.take_succ_cons, List.take_zero, List.drop_succ_cons, List.drop_zero]
      iterate 7 still_step
      refine wpStill_step (fun K hK => ?_)
      have HK := Lib.hid hK
      clear hK
      go_simp
      refine ⟨.int .i64 R, HRd.out _, ?_⟩
      refine HK.out _ ?_
      clear HK K
      iterate 2 still_step
      refine wpStill_nil ?_
      change wpList _ _ _ _ _ wr.drew
      go_wp2
      go_roundw
      case rel =>
        have u9 : Upd (fun j => j = G) wr (wr.drew.setCell ⟨G, p, none⟩ (.int .i64 (Y + R))) := ((Upd.refl _ _).drew.setCell _ (fun _ => rfl))
        have hGlt : G < w.heap.size := (HRr.out.lt G rfl).2
        have hrs := ((HO.out.upd (S := NoB) (Upd.refl _ _).drew (noB _)).set p (by rw [HYl.out]; exact hlt) (Y + R)).row HbG.out HcG.out
        rw [List.length_set, HYl.out] at hrs
        refine ⟨p + 1, ys.set p (Y + R), by omega, by go_num, hrs, by rw [List.length_set]; exact HYl.out, fun t ht => ?_, u9.row HRvr.out (fun j hj e => by have := (HRvr.out.lt j hj).1; have e : j = G := e; omega), u9.heap HBx.out (fun e => by have e : B = G := e; have := HbG.out; omega), HU.out.trans u9 (fun j _ e => by have e : j = G := e; show base ≤ j; have := HbG.out; omega), Nat.le_trans hws u9.size⟩
        rw [getD_set _ _ _ (by rw [HYl.out]; exact hlt)]
        by_cases e : p = t
        · subst e
          rw [if_pos rfl, if_pos (by omega), HNp.out]
        · rw [if_neg e, HYs.out t ht]
          by_cases h1 : t < p
          · rw [if_pos h1, if_pos (by omega)]
          · rw [if_neg h1, if_neg (by omega)]
      case measure => simp [intOf]; omega
    · obtain rfl : p = L := by omega
      have HE := Lib.hid (HFin.out ys hyl (fun t ht => by rw [hys t ht, if_pos ht]))
      have hbs2 : base ≤ wr.heap.size := by omega
      clear hrow hyl hys hrv hbx hu hlt
      go_wp2_with (at_builtin; refine wpList_push rfl (.tmp 28) (.tmp 31) rfl base (.slice va p vc) p ys (32 * k) rfl rfl HRw.out (by omega) hbs2 ?_; intro v' w' hown' u'; obtain ⟨a9, c9, rfl⟩ := row_form hown'; have R' := Lib.hid hown'; have U' := Lib.hid u'; have HBx' := Lib.hid (u'.heap HBx.out (fun h => by have h : base ≤ B := h; omega)); have d9 := blk_cell HBx'.out 0; have f9 := blk_free HBx'.out 0; clear hown' u')
      go_end0
      refine ⟨rfl, _, block_set HBx'.out _, ?_, ?_⟩
      · have hr9 := ((Upd.refl (fun j => j = B) w').setCell (p := ⟨B, 0, none⟩) (.slice a9 (p + 1) c9) (fun _ => rfl)).row R'.out (fun j hj e => by have := (R'.out.lt j hj).1; have e : j = B := e; omega)
        rw [HE.out] at hr9
        exact hr9
      · exact ((((HU.out.mono (T := fun j => j = B ∨ base ≤ j) (fun _ _ h => .inr h)).trans U'.out (fun j _ h => .inr h))).setCell _ (fun _ => .inl rfl))
end Go.Proofs.Ytopjjdfnnjgnlaa
