/- bands: the law of widths, ranges and bands together -/
import Derived.Test.YtaplmdkjoijcgaaDoorOF
namespace Go.Proofs.YtaplmdkjoijcgaaDoor
open Go.RowKit Go.Shelf

theorem spT_mono {ls : List Int} (h : ∀ x ∈ ls, 0 ≤ x) {a : Nat} : ∀ {b : Nat}, a ≤ b → spT ls a ≤ spT ls b
  | 0, hab => by obtain rfl : a = 0 := by omega
                 exact Int.le_refl _
  | b + 1, hab => by
    by_cases e : a = b + 1
    · subst e; exact Int.le_refl _
    · have ih := spT_mono h (show a ≤ b by omega)
      cases hx : ls[b]? with
      | none =>
        have : spT ls (b + 1) = spT ls b := by unfold spT; rw [List.take_add_one, hx]; simp
        omega
      | some x =>
        have := h x (List.mem_of_getElem? hx)
        rw [spT_succ hx]; omega
theorem bands_dec {s : Bool} {gs : List Int} (h : isD s gs = true) : (∀ x ∈ bandsL s gs, 1 ≤ x ∧ x ≤ 128) ∧ spT (bandsL s gs) (ctN s gs) = 128 := by
  have := by_divs (p := fun s gs => decide ((bandsL s gs).all (fun x => decide (1 ≤ x ∧ x ≤ 128)) = true ∧ spT (bandsL s gs) (ctN s gs) = 128)) (by decide +kernel) h
  have := of_decide_eq_true this
  exact ⟨fun x hx => of_decide_eq_true (List.all_eq_true.1 this.1 x hx), this.2⟩
theorem rg_ok {s : Bool} {gs : List Int} {k : Nat} (h : isD s gs = true) (hk : k < ctN s gs) : rgF s gs k = spT (bandsL s gs) k ∧ rgT s gs k = spT (bandsL s gs) (k + 1) ∧ rgE s gs k = 0 := by
  have hE : rgE s gs k = 0 := (if_pos h).trans (if_pos (by omega))
  refine ⟨(if_pos hE).trans ?_, (if_pos hE).trans ?_, hE⟩ <;> rw [Int.toNat_natCast]
theorem bd_ok {s : Bool} {gs : List Int} {k : Nat} {i : Int} (h : isD s gs = true) (hk : k < ctN s gs) (h1 : spT (bandsL s gs) k ≤ i) (h2 : i < spT (bandsL s gs) (k + 1)) : bdS s gs i = (k : Int) ∧ bdE s gs i = 0 := by
  have hd := bands_dec h
  have hm : ∀ x ∈ bandsL s gs, 0 ≤ x := fun x hx => by have := hd.1 x hx; omega
  have h0 : 0 ≤ spT (bandsL s gs) k := by have := spT_mono hm (Nat.zero_le k); simpa [spT] using this
  have h8 := spT_mono hm (show k + 1 ≤ ctN s gs by omega)
  rw [hd.2] at h8
  have hE : bdE s gs i = 0 := (if_pos h).trans (if_pos (by omega))
  refine ⟨(if_pos hE).trans ?_, hE⟩
  rw [bdF_at (by rw [ctN_bands]; exact hk) (fun j hj => Int.le_trans (spT_mono hm (show j + 1 ≤ k by omega)) h1) h2]
def f16 : List Int := [0, 1, 16, 17, 32, 33, 48, 49, 64, 65, 80, 81, 96, 97, 112, 113]
theorem f16_eq : (plI true [8]).take 16 = f16 := by decide +kernel
def fs16 (q : Nat) : Nat := ((f16.take q).filter fun x => x.tmod 16 == 0).length
theorem fs16_succ {q : Nat} {x : Int} (h : f16[q]? = some x) : fs16 (q + 1) = fs16 q + (if x.tmod 16 = 0 then 1 else 0) := by
  unfold fs16
  rw [List.take_add_one, h, List.filter_append, List.length_append]
  by_cases e : x.tmod 16 = 0 <;> simp [e]
theorem fs16_le : ∀ q, q ≤ 16 → fs16 q ≤ 16 := by decide
theorem f16_bd : ∀ x ∈ f16, 0 ≤ x ∧ x ≤ 113 := by decide
theorem tg_w : wdS true [8] = [16, 16, 32, 64] ∧ dE true [8] = 0 := by decide +kernel
theorem tg_d : isD true [8] = true := by decide +kernel
set_option maxRecDepth 100000 in
set_option maxHeartbeats 4000000 in
theorem together_law (s : Bool) (v : Value) (gs : List Int) (w : World) (h : Ints w v gs) (hg : Gv w) :
    Calls Tryd.prog 8 #[.bool s, v] w fun e w' => e = .returned (.bool true) ∧ Upd NoB w w' := by
  have HI := Lib.hid (rIs_any s v gs w h)
  obtain ⟨a, cap, rfl⟩ := h.form
  have HX := Lib.hid h; have HG := Lib.hid hg
  obtain ⟨L, hL⟩ : ∃ L, gs.length = L := ⟨_, rfl⟩
  rw [hL] at HX HI ⊢
  clear h hg hL
  by_cases hf : 100 < L
  · have t1 : decide ((100 : Int) < (L : Int)) = true := decide_eq_true (by omega)
    have t1n : decide (100 < L) = true := decide_eq_true hf
    clear hf
    go_enter Tryd.func8, Tryd.ntmps8
    go_wp2_with fail
    refine (awake_any _ HG.out).mono ?_
    rintro e w' ⟨rfl, u1⟩
    have U1 := Lib.hid u1
    clear u1
    go_wp2_with fail
    go_ret
    exact ⟨rfl, U1.out⟩
  · have t1 : decide ((100 : Int) < (L : Int)) = false := decide_eq_false (by omega)
    have t1n : decide (100 < L) = false := decide_eq_false hf
    clear hf
    cases hd : isD s gs with
    | false =>
      rw [hd] at HI
      clear hd
      go_enter Tryd.func8, Tryd.ntmps8
      go_wp2_with fail
      refine HI.out.mono ?_
      rintro e w' ⟨rfl, rfl⟩
      go_wp2_with fail
      refine (awake_any _ HG.out).mono ?_
      rintro e w' ⟨rfl, u1⟩
      have U1 := Lib.hid u1
      clear u1
      go_wp2_with fail
      go_ret
      exact ⟨rfl, U1.out⟩
    | true =>
      rw [hd] at HI
      have HWd := Lib.hid (show wdS s gs = bandsL s gs ∧ dE s gs = 0 from ⟨if_pos hd, if_pos hd⟩)
      have HCt := Lib.hid (show ctS s gs = ((ctN s gs : Nat) : Int) from if_pos hd)
      have HBl := Lib.hid (ctN_bands s gs); have hct := ctN_le hd
      have HBd := Lib.hid (bands_dec hd)
      have HRg := Lib.hid (fun k (hk : k < ctN s gs) => rg_ok hd hk)
      have HBa := Lib.hid (fun k (hk : k < ctN s gs) i h1 h2 => bd_ok (i := i) hd hk h1 h2)
      have HSpb := Lib.hid (fun k => spT_bd (bands_bd hd) k)
      generalize bandsL s gs = ls at *
      generalize ctN s gs = N at *
      clear hd
      go_enter Tryd.func8, Tryd.ntmps8
      go_wp2_with fail
      refine HI.out.mono ?_
      rintro e w' ⟨rfl, rfl⟩
      go_wp2_with fail
      refine (Widths_any s _ gs w HX.out HG.out).mono ?_
      rw [HWd.out.1, HWd.out.2]
      rintro e w2 ⟨a0, n0, c0, rfl, r0, u0⟩
      rw [HBl.out] at r0
      obtain rfl := (by have := row_form r0; obtain ⟨_, _, e⟩ := this; injection e : n0 = N)
      have I2 := Lib.hid (show Ints w2 (.slice a0 n0 c0) ls from Ints.ofRow (xs := ls) (by rw [HBl.out]; exact r0) (by rw [HBl.out]; omega)); have U2 := Lib.hid u0
      clear r0 u0
      go_wp2_with fail
      refine (Count_any s _ gs w2 (HX.out.later U2.out) (HG.out.later U2.out)).mono ?_
      rw [HCt.out, HWd.out.2]
      rintro e w3 ⟨rfl, u3⟩
      have I3 := Lib.hid (I2.out.later u3); have U3 := Lib.hid (U2.out.then u3)
      clear u3 I2
      go_wp2_with fail
      go_loopw [9, 60] (fun at' i wr => ∃ k : Nat, k ≤ n0 ∧ i = .int .i64 k ∧ at' = .int .i64 (spT ls k) ∧ Upd NoB w3 wr) (fun _ i _ => n0 - (intOf i).toNat)
      case atStart => exact ⟨0, Nat.zero_le _, rfl, rfl, Upd.refl _ _⟩
      case round =>
        obtain ⟨k, hk, rfl, rfl, hu⟩ := hrel
        have HU := Lib.hid hu; have UW := Lib.hid (U3.out.then hu); have Ir := Lib.hid (I3.out.later hu)
        by_cases hlt : k < n0
        · obtain ⟨x, hx⟩ : ∃ x, ls[k]? = some x := ⟨_, List.getElem?_eq_getElem (by rw [HBl.out]; exact hlt)⟩
          obtain ⟨x1, x8⟩ := HBd.out.1 x (List.mem_of_getElem? hx)
          obtain ⟨xn, rfl⟩ := Int.eq_ofNat_of_zero_le (show 0 ≤ x by omega)
          have HS := Lib.hid (spT_succ hx)
          have HR := Lib.hid (HRg.out k hlt)
          have HB := Lib.hid (HBa.out k hlt)
          obtain ⟨f0, f8⟩ := HSpb.out k
          rw [HS.out] at HR HB
          have HX0 := Lib.hid hx
          generalize spT ls k = f at *
          have s1 : decide ((xn : Int) < 1) = false := decide_eq_false (by omega)
          have s2 : decide ((128 : Int) < (xn : Int)) = false := decide_eq_false (by omega)
          have s1n : decide (xn < 1) = false := decide_eq_false (by omega)
          have s2n : decide (128 < xn) = false := decide_eq_false (by omega)
          clear hx hu
          go_wp2_with fail
          refine (Range_any k s _ gs wr (HX.out.later UW.out) (HG.out.later UW.out)).mono ?_
          rw [HR.out.1, HR.out.2.1, HR.out.2.2]
          rintro e w4 ⟨rfl, u4⟩
          have I4 := Lib.hid (Ir.out.later u4); have U4 := Lib.hid (HU.out.then u4)
          obtain ⟨bb, off, e, c0⟩ := I4.out.cellAt HX0.out
          subst e
          clear u4
          go_wp2_with fail
          go_loopw [14] (fun i wr => ∃ q : Nat, q ≤ xn ∧ i = .int .i64 (f + (q : Int)) ∧ Upd NoB w3 wr) (fun i _ => (f + (xn : Int) - intOf i).toNat)
          case atStart => exact ⟨0, Nat.zero_le _, by simp, U4.out⟩
          case round =>
            obtain ⟨q, hq, rfl, hu⟩ := hrel
            have HU5 := Lib.hid hu; have UW5 := Lib.hid (U3.out.then hu)
            by_cases hlt2 : q < xn
            · have HBq := Lib.hid (HB.out (f + (q : Int)) (by omega) (by omega))
              have s3 : decide (f + (q : Int) < f + (xn : Int)) = true := decide_eq_true (by omega)
              clear hu
              go_wp2_with fail
              refine (Band_any (f + (q : Int)) s _ gs wr (HX.out.later UW5.out) (HG.out.later UW5.out)).mono ?_
              rw [HBq.out.1, HBq.out.2]
              rintro e w5 ⟨rfl, u5⟩
              have U5 := Lib.hid (HU5.out.then u5)
              clear u5
              go_wp2_with fail
              go_roundw
              case rel => exact ⟨q + 1, by omega, by go_num, U5.out⟩
              case measure => simp [intOf]; omega
            · obtain rfl : q = xn := by omega
              have s3 : decide (f + (q : Int) < f + (q : Int)) = false := decide_eq_false (by omega)
              clear hu
              go_wp2_with fail
              go_roundw
              case rel => exact ⟨k + 1, by omega, by go_num, by rw [HS.out], HU5.out⟩
              case measure => simp [intOf]; omega
        · obtain rfl : k = n0 := by omega
          have HEnd := Lib.hid HBd.out.2
          rw [HEnd.out]
          clear hu Ir I3
          go_wp2_with fail
          have u6 : Upd NoB wr (wr.alloc (.cells #[.int .i64 8] 3)) := (Upd.refl _ _).alloc _
          refine (Order_any true _ [8] _ (Ints.ofBlock (xs := [8]) (by decide) (heap_alloc_new wr _)) (HG.out.later (UW.out.then u6))).mono ?_
          rw [show orS true [8] = plI true [8] from if_pos tg_d, tg_w.2]
          rintro e w6 ⟨a6, n6, c6, rfl, r6, u7⟩
          rw [(plI_perm tg_d).1] at r6
          obtain rfl := (by have := row_form r6; obtain ⟨_, _, e⟩ := this; injection e : n6 = 128)
          obtain ⟨g6, c6', e6⟩ := row_slice r6 (by decide)
          injection e6 with e4 _ e5
          subst e4; subst e5
          have hc6 := row_cap r6
          have X6 := Lib.hid (row_cells r6 (plI_perm tg_d).1)
          have U6 := Lib.hid (UW.out.then (u6.then u7))
          clear r6 u6 u7
          go_wp2_with fail
          have u8 : Upd NoB w6 (w6.alloc (.cells #[.int .i64 8] 3)) := (Upd.refl _ _).alloc _
          refine (Widths_any true _ [8] _ (Ints.ofBlock (xs := [8]) (by decide) (heap_alloc_new w6 _)) (HG.out.later (U6.out.then u8))).mono ?_
          rw [tg_w.1, tg_w.2]
          rintro e w7 ⟨a7, n7, c7, rfl, r7, u9⟩
          obtain rfl := (by have := row_form r7; obtain ⟨_, _, e⟩ := this; injection e : n7 = 4)
          obtain ⟨g7, c7', e7⟩ := row_slice r7 (by decide)
          injection e7 with e4 _ e5
          subst e4; subst e5
          have k7 : w7.cell? ⟨g7, 0, none⟩ = some (.int .i64 16) := row_cells r7 rfl 0 16 rfl
          have X7 := Lib.hid (show ∀ j x, f16[j]? = some x → w7.cell? ⟨g6, j, none⟩ = some (.int .i64 x) from fun j x hx => (u8.then u9).cell (X6.out j x (by
            rw [← f16_eq, List.getElem?_take] at hx
            split at hx
            · exact hx
            · cases hx)) (noB _))
          have U7 := Lib.hid (U6.out.then (u8.then u9))
          have hc16 : 16 ≤ c6 := by omega
          clear r7 u8 u9 X6
          go_wp2_with fail
          go_loop [21, 168] (fun n i => ∃ q : Nat, q ≤ 16 ∧ i = .int .i64 q ∧ n = .int .i64 (fs16 q : Nat)) (fun _ i => 16 - (intOf i).toNat)
          case atStart => exact ⟨0, Nat.zero_le _, rfl, rfl⟩
          case round =>
            obtain ⟨q, hq, rfl, rfl⟩ := hrel
            by_cases hlt3 : q < 16
            · obtain ⟨y, hy⟩ : ∃ y, f16[q]? = some y := ⟨_, List.getElem?_eq_getElem (show q < 16 from hlt3)⟩
              have cy := X7.out q y hy
              obtain ⟨y0, y8⟩ := f16_bd y (List.mem_of_getElem? hy)
              have HSf := Lib.hid (fs16_succ hy)
              have hfl := fs16_le q hq
              generalize fs16 q = n at *
              obtain ⟨z, hz⟩ : ∃ z, y.tmod 16 = z := ⟨_, rfl⟩
              have hzb : -16 ≤ z ∧ z ≤ 16 := by rw [← hz, Int.tmod_eq_emod_of_nonneg y0]; omega
              have hw1 : IntKind.i64.wrap z = z := IntWalk.i64_in _ (by omega)
              have hw2 : wrap64 z = z := IntWalk.wrap64_in _ (by omega)
              rw [hz] at HSf
              by_cases hm : z = 0
              · have HN := Lib.hid (show fs16 (q + 1) = n + 1 by rw [HSf.out, if_pos hm])
                subst hm
                clear hy hzb
                go_wp2_with fail
                go_round
                case rel => exact ⟨q + 1, by omega, by go_num, by rw [HN.out, Int.natCast_add]; rfl⟩
                case measure => simp [intOf]; omega
              · have HN := Lib.hid (show fs16 (q + 1) = n by rw [HSf.out, if_neg hm, Nat.add_zero])
                have m1 : (z == 0) = false := by rw [beq_eq_false_iff_ne]; exact hm
                have m2 : decide (z = 0) = false := decide_eq_false hm
                clear hy hzb hm
                go_wp2_with fail
                go_round
                case rel => exact ⟨q + 1, by omega, by go_num, by rw [HN.out]⟩
                case measure => simp [intOf]; omega
            · obtain rfl : q = 16 := by omega
              rw [show fs16 16 = 8 by decide]
              go_wp2_with fail
              refine (awake_any _ (HG.out.later U7.out)).mono ?_
              rintro e w8 ⟨rfl, u11⟩
              have U11 := Lib.hid (U7.out.then u11)
              clear u11
              go_wp2_with fail
              go_ret
              exact ⟨rfl, U11.out⟩
end Go.Proofs.YtaplmdkjoijcgaaDoor
