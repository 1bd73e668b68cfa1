/- energy: the reference's cut, Energies, Total, Tones, Levels, Blocks -/
import Derived.Test.YtgdndcbcdoogpaaDoorEA
namespace Go.Proofs.YtgdndcbcdoogpaaDoor
open Go.RowKit Go.Shelf

theorem run_slice_h (w : World) (b off n cap t : Nat) (ht : t ≤ cap) :
    (Instr.slice 22 (.slice (some ⟨b, off, none⟩) n cap) none (some (.int .i64 t)) none).run Tryd.prog w = .ok (.slice (some ⟨b, off, none⟩) t cap) w := by
  have h1 : (0 : Int) ≤ (t : Int) ∧ (t : Int) ≤ (cap : Int) := ⟨by omega, by omega⟩
  have hsz : (sizeOf 3).run Tryd.prog w = .ok 1 w := by kernel_rfl
  have hu : (underlying 22).run Tryd.prog w = .ok (.slice 3) w := by kernel_rfl
  simp [Instr.slice, Instr.sliceBounds, Instr.sliceBound, asIntOf, Sem.run_bind, Result.andThen, hu, hsz, h1, Int.toNat_natCast, ht, addr_add]
set_option maxRecDepth 100000 in
set_option maxHeartbeats 4000000 in
theorem rcut_any (cv : Value) (c : List Int) (s : Bool) (v : Value) (gs : List Int) (w : World) (hc : Ints w cv c) (h : Ints w v gs) (hE0 : spE c s gs = 0) : Calls Tryd.prog 71 #[cv, .bool s, v] w fun e w' => (∃ a n c', e = .returned (.slice a n c') ∧ n = (cutL c s gs).length ∧ Parts w' (.slice a n c') (cutL c s gs)) ∧ Upd NoB w w' := by
  obtain ⟨hd, hn, _⟩ := spE_ok hE0
  have hdf : dfE c.length s gs = 0 := (if_pos hd).trans (if_pos hn)
  have HGa := Lib.hid (rGather_any cv c s v gs w hc h)
  have HBn := Lib.hid (fun w' (u : Upd NoB w w') => rBands_any s v gs w' (h.later u) hd)
  have HGs := Lib.hid (show gaS c s gs = gaL (plI s gs) c ∧ dfE c.length s gs = 0 from ⟨if_pos hdf, hdf⟩)
  obtain ⟨ca, cc, rfl⟩ := hc.form
  obtain ⟨a, cap, rfl⟩ := h.form
  have HBl := Lib.hid (ctN_bands s gs)
  have HBd := Lib.hid (bands_one hd)
  have hcp := ctN_pos hd
  have hc8 := ctN_le hd
  have HLg := Lib.hid (show (gaL (plI s gs) c).length = 128 by unfold gaL; rw [List.length_map]; exact (plI_perm hd).1)
  have HCu := Lib.hid (show cutL c s gs = ptL (bandsL s gs) (gaL (plI s gs) c) from rfl)
  have HPl := Lib.hid (ptL_len (bandsL s gs) (gaL (plI s gs) c))
  rw [HGs.out.1, HGs.out.2] at HGa
  rw [HCu.out]
  generalize bandsL s gs = ws at *
  generalize ctN s gs = N at *
  generalize gaL (plI s gs) c = l at *
  generalize c.length = n at *
  generalize gs.length = L at *
  clear h hc hd hdf hn hE0
  go_enter Tryd.func71, Tryd.ntmps71
  go_wp2_with fail
  refine HGa.out.mono ?_
  rintro e w2 ⟨a2, n2, c2, rfl, r2, u2⟩
  rw [HLg.out] at r2
  obtain rfl := (by have := row_form r2; obtain ⟨_, _, e⟩ := this; injection e : n2 = 128)
  obtain ⟨G, c2', e2⟩ := row_slice r2 (by decide)
  injection e2 with e4 _ e5
  subst e4; subst e5
  have hc2 := row_cap r2
  have X2 := Lib.hid (row_cells r2 HLg.out)
  have hG2 := (r2.lt G rfl).2
  have U2 := Lib.hid u2
  clear r2 u2
  go_wp2_with fail
  refine (HBn.out w2 U2.out).mono ?_
  rintro e w3 ⟨v1, rfl, r1, u3⟩
  rw [HBl.out] at r1
  obtain ⟨a1, c1, rfl⟩ := row_form r1
  have IW3 := Lib.hid (show Ints w3 (.slice a1 N c1) ws from by
    have := Ints.ofRow (xs := ws) (by rw [HBl.out]; exact r1) (by rw [HBl.out]; omega)
    exact this)
  have U3 := Lib.hid (U2.out.then u3)
  have X3 := Lib.hid (show ∀ j x, l[j]? = some x → w3.cell? ⟨G, j, none⟩ = some (.int .i64 x) from fun j x hx => u3.cell (X2.out j x hx) (noB _))
  have hG3 : G < w3.heap.size := Nat.lt_of_lt_of_le hG2 u3.size
  clear u3 r1 X2
  go_wp2_with fail
  go_loopw [7, 9, 23] (fun lf v i wr => ∃ k : Nat, k ≤ N ∧ i = .int .i64 k ∧ (∃ (f : Nat) (al : Option Addr), spT ws k = (f : Int) ∧ lf = .slice al (128 - f) (c2 - f) ∧ (k < N → al = some ⟨G, f, none⟩)) ∧ wr.ownsRow w3.heap.size 22 1 v k (pvV G ws (fun j => c2 - (spT ws j).toNat) k) ∧ Upd NoB w3 wr) (fun _ _ i _ => N - (intOf i).toNat)
  case atStart => exact ⟨0, Nat.zero_le _, rfl, ⟨0, _, rfl, rfl, fun _ => rfl⟩, World.ownsRow_nil _ _ _ _, Upd.refl _ _⟩
  case round =>
    obtain ⟨k, hk, rfl, ⟨f, al, hf, rfl, hal⟩, hown, hu⟩ := hrel
    obtain ⟨va, vc, rfl⟩ := row_form hown
    have HOw := Lib.hid hown; have HU := Lib.hid hu
    have hbs := hu.size
    by_cases hlt : k < N
    · obtain ⟨x, hx⟩ : ∃ x, ws[k]? = some x := ⟨_, List.getElem?_eq_getElem (by rw [HBl.out]; exact hlt)⟩
      obtain ⟨x1, x8⟩ := HBd.out.1 x (List.mem_of_getElem? hx)
      obtain ⟨bb, off, rfl, c0⟩ := (IW3.out.later hu).cellAt hx
      obtain ⟨xn, rfl⟩ := Int.eq_ofNat_of_zero_le (show 0 ≤ x by omega)
      have hgd : ws.getD k 0 = (xn : Int) := by rw [List.getD_eq_getElem?_getD, hx]; rfl
      have hs1 := spT_succ hx
      have hle : (f : Int) + xn ≤ 128 := by
        have h9 : spT ws (k + 1) ≤ spT ws N := spT_le (fun x hx => by have := HBd.out.1 x hx; omega) (by omega)
        rw [HBd.out.2, hs1, hf] at h9
        omega
      rw [hal hlt]
      have HV := Lib.hid (show pvV G ws (fun j => c2 - (spT ws j).toNat) (k + 1) = pvV G ws (fun j => c2 - (spT ws j).toNat) k ++ [Value.slice (some ⟨G, f, none⟩) xn (c2 - f)] by
        rw [pvV_succ]
        simp only [hgd, hf, Int.toNat_natCast])
      have HNx := Lib.hid (show spT ws (k + 1) = ((f + xn : Nat) : Int) by rw [hs1, hf]; omega)
      have HSt := Lib.hid (show k + 1 < N → f + xn < 128 from fun h2 => by
        obtain ⟨y, hy⟩ : ∃ y, ws[k + 1]? = some y := ⟨_, List.getElem?_eq_getElem (by rw [HBl.out]; exact h2)⟩
        have hy1 := HBd.out.1 y (List.mem_of_getElem? hy)
        have hs2 := spT_succ hy
        have h9 : spT ws (k + 1 + 1) ≤ spT ws N := spT_le (fun x hx => by have := HBd.out.1 x hx; omega) (by omega)
        rw [HBd.out.2, hs2, hs1, hf] at h9
        omega)
      generalize pvV G ws (fun j => c2 - (spT ws j).toNat) k = vs at *
      have hsl := fun w => run_slice_h w G f (128 - f) (c2 - f) xn (by omega)
      have hlo := fun w => run_slice_lo w (some ⟨G, f, none⟩) (128 - f) (c2 - f) xn (by omega) (by omega)
      obtain ⟨al2, hal2⟩ : ∃ al2, (if c2 - f = xn then (some ⟨G, f, none⟩ : Option Addr) else (some ⟨G, f, none⟩ : Option Addr).map (fun p => p.add (xn * 1))) = al2 := ⟨_, rfl⟩
      have HAl := Lib.hid (show f + xn < 128 → al2 = some ⟨G, f + xn, none⟩ from fun h2 => by
        rw [← hal2, if_neg (by omega), Option.map_some, addr_add, Nat.mul_one])
      rw [hal2, show 128 - f - xn = 128 - (f + xn) by omega, show c2 - f - xn = c2 - (f + xn) by omega] at hlo
      have hx8 : xn ≤ 128 := by omega
      clear hx hs1 hle hgd hown hu hal2 hf hal x1 x8
      go_wp2_with (at_builtin; refine wpList_pushV rfl (.tmp 27) (.tmp 31) rfl w3.heap.size (.slice va k vc) k vs (.slice (some ⟨G, f, none⟩) xn (c2 - f)) rfl rfl rfl HOw.out (by omega) hbs ?_; intro v' w' hown' u'; have R' := Lib.hid hown'; have U' := Lib.hid u'; clear hown' u')
      go_roundw
      case rel => exact ⟨k + 1, by omega, by go_num, ⟨f + xn, al2, HNx.out, rfl, fun h2 => HAl.out (HSt.out h2)⟩, by rw [HV.out]; exact R'.out, upd_ge ((upd_ge' HU.out w3.heap.size).trans U'.out (fun _ _ h => h))⟩
      case measure => simp [intOf]; omega
    · obtain rfl : k = N := by omega
      have hcap : ∀ j, j < k → (ws.getD j 0).toNat ≤ c2 - (spT ws j).toNat := fun j hj => by
        obtain ⟨y, hy⟩ : ∃ y, ws[j]? = some y := ⟨_, List.getElem?_eq_getElem (by rw [HBl.out]; exact hj)⟩
        have hy1 := HBd.out.1 y (List.mem_of_getElem? hy)
        have hs1 := spT_succ hy
        have h9 : spT ws (j + 1) ≤ spT ws k := spT_le (fun x hx => by have := HBd.out.1 x hx; omega) (by omega)
        have h0 := spT_nn (fun x hx => by have := HBd.out.1 x hx; omega) j
        have hgd : ws.getD j 0 = y := by rw [List.getD_eq_getElem?_getD, hy]; rfl
        rw [HBd.out.2, hs1] at h9
        rw [hgd]
        omega
      have hP := parts_of HBl.out hcp HOw.out HLg.out (fun j x hx => HU.out.cell (X3.out j x hx) (noB _)) HBd.out.1 HBd.out.2 hcap
      obtain ⟨pa, pn, pc, e, hP⟩ := hP
      cases e
      have HP := Lib.hid hP
      clear hown hu hP hf hal hcap
      go_wp2_with fail
      go_ret
      exact ⟨⟨_, _, _, rfl, by rw [HPl.out, HBl.out], HP.out⟩, U3.out.then HU.out⟩
set_option maxRecDepth 100000 in
set_option maxHeartbeats 4000000 in
theorem rEnergies_any (cv : Value) (c : List Int) (s : Bool) (v : Value) (gs : List Int) (w : World) (hc : Ints w cv c) (h : Ints w v gs) : Calls Tryd.prog 38 #[cv, .bool s, v] w (EInts w (enS c s gs) (spE c s gs)) := by
  have HSp := Lib.hid (rspectrum_any cv c s v gs w hc h)
  by_cases hE : spE c s gs = 0
  · have HC := Lib.hid (rcut_any cv c s v gs w hc h hE)
    obtain ⟨hd, hnl, hco⟩ := spE_ok hE
    clear hnl
    obtain ⟨ca, cc, rfl⟩ := hc.form
    obtain ⟨a, cap, rfl⟩ := h.form
    have HS := Lib.hid (show enS c s gs = (cutL c s gs).map sqs from if_pos hE)
    have HOk := Lib.hid (fun k xs (hx : (cutL c s gs)[k]? = some xs) => cutL_ok hd hco hx)
    have hln := (cutL_len (c := c) hd).1
    rw [hE] at HSp ⊢
    rw [HS.out]
    generalize cutL c s gs = ps at *
    have HE := Lib.hid (show (ps.take ps.length).map sqs = ps.map sqs by rw [List.take_length])
    have HLn := Lib.hid (show (ps.map sqs).length = ps.length by rw [List.length_map])
    obtain ⟨L, hL⟩ : ∃ L, ps.length = L := ⟨_, rfl⟩
    have HL := Lib.hid hL
    rw [hL] at HE HLn HC hln
    generalize c.length = n at *
    generalize gs.length = gn at *
    clear h hc hd hco hE hL
    go_enter Tryd.func38, Tryd.ntmps38
    go_wp2_with fail
    refine HSp.out.mono ?_
    rintro e w0 ⟨rfl, rfl⟩
    go_wp2_with fail
    refine HC.out.mono ?_
    rintro e w1 ⟨⟨a1, n1, c1, rfl, rfl, hP⟩, u1⟩
    obtain ⟨b, c2, e2, hk⟩ := hP
    rw [HL.out] at e2
    injection e2 with e3 _ e4
    subst e3; subst e4
    have HK := Lib.hid hk; have U1 := Lib.hid u1
    clear hk u1
    go_wp2_with fail
    go_loopw [9, 24] (fun v i wr => ∃ k : Nat, k ≤ n1 ∧ i = .int .i64 k ∧ wr.ownsRow w1.heap.size 3 1 v k (i64s ((ps.take k).map sqs)) ∧ Upd NoB w1 wr) (fun _ i _ => n1 - (intOf i).toNat)
    case atStart => exact ⟨0, Nat.zero_le _, rfl, World.ownsRow_nil _ _ _ _, Upd.refl _ _⟩
    case round =>
      obtain ⟨k, hk, rfl, hown, hu⟩ := hrel
      obtain ⟨va, vc, rfl⟩ := row_form hown
      have HOw := Lib.hid hown; have HU := Lib.hid hu
      have hb2 := hu.size
      by_cases hlt : k < n1
      · obtain ⟨x, hx⟩ : ∃ x, ps[k]? = some x := ⟨_, List.getElem?_eq_getElem (by rw [HL.out]; exact hlt)⟩
        obtain ⟨xa, xc, cx, ix⟩ := HK.out k x hx
        have c0 := hu.cell cx (noB _)
        have HFx := Lib.hid (rSquares_any _ x wr (ix.later hu) (HOk.out k x hx).1 (HOk.out k x hx).2.2)
        generalize x.length = xl at *
        have HM := Lib.hid (mmap_take (f := sqs) hx)
        generalize (ps.take k).map sqs = ys at *
        generalize sqs x = y at *
        clear hx hown hu cx ix
        go_wp2_with fail
        refine HFx.out.mono ?_
        rintro r w2 ⟨rfl, rfl⟩
        go_wp2_with (at_builtin; refine wpList_push rfl (.tmp 28) (.tmp 31) rfl w1.heap.size (.slice va k vc) k ys y rfl rfl HOw.out (by omega) hb2 ?_; intro v' w' hown' u'; have R' := Lib.hid hown'; have U' := Lib.hid u'; clear hown' u')
        go_roundw
        case rel => exact ⟨k + 1, by omega, by go_num, by rw [HM.out]; exact R'.out, upd_ge ((upd_ge' HU.out w1.heap.size).trans U'.out (fun _ _ h => h))⟩
        case measure => simp [intOf]; omega
      · obtain rfl : k = n1 := by omega
        rw [HE.out] at HOw
        clear hlt hown hu
        go_wp2_with fail
        go_ret2
        exact ⟨_, _, _, rfl, by rw [HLn.out]; exact row_base HOw.out U1.out.size, U1.out.then HU.out⟩
  · have HS := Lib.hid (show enS c s gs = [] from if_neg hE)
    have t1 : (spE c s gs != 0) = true := by rw [bne_iff_ne]; exact hE
    obtain ⟨ca, cc, rfl⟩ := hc.form
    obtain ⟨a, cap, rfl⟩ := h.form
    rw [HS.out]
    generalize spE c s gs = E at *
    generalize c.length = n at *
    generalize gs.length = L at *
    clear h hc hE
    go_enter Tryd.func38, Tryd.ntmps38
    go_wp2_with fail
    refine HSp.out.mono ?_
    rintro e w0 ⟨rfl, rfl⟩
    go_wp2_with fail
    go_ret2
    exact ⟨none, 0, 0, rfl, World.ownsRow_nil _ _ _ _, Upd.refl _ _⟩
set_option maxRecDepth 100000 in
set_option maxHeartbeats 4000000 in
theorem rTones_any (cv : Value) (c : List Int) (s : Bool) (v : Value) (gs : List Int) (w : World) (hc : Ints w cv c) (h : Ints w v gs) : Calls Tryd.prog 42 #[cv, .bool s, v] w (EInts w (toS c s gs) (spE c s gs)) := by
  have HSp := Lib.hid (rspectrum_any cv c s v gs w hc h)
  by_cases hE : spE c s gs = 0
  · have HC := Lib.hid (rcut_any cv c s v gs w hc h hE)
    obtain ⟨hd, hnl, hco⟩ := spE_ok hE
    clear hnl
    obtain ⟨ca, cc, rfl⟩ := hc.form
    obtain ⟨a, cap, rfl⟩ := h.form
    have HS := Lib.hid (show toS c s gs = (cutL c s gs).map tnV from if_pos hE)
    have HOk := Lib.hid (fun k xs (hx : (cutL c s gs)[k]? = some xs) => cutL_ok hd hco hx)
    have hln := (cutL_len (c := c) hd).1
    rw [hE] at HSp ⊢
    rw [HS.out]
    generalize cutL c s gs = ps at *
    have HE := Lib.hid (show (ps.take ps.length).map tnV = ps.map tnV by rw [List.take_length])
    have HLn := Lib.hid (show (ps.map tnV).length = ps.length by rw [List.length_map])
    obtain ⟨L, hL⟩ : ∃ L, ps.length = L := ⟨_, rfl⟩
    have HL := Lib.hid hL
    rw [hL] at HE HLn HC hln
    generalize c.length = n at *
    generalize gs.length = gn at *
    clear h hc hd hco hE hL
    go_enter Tryd.func42, Tryd.ntmps42
    go_wp2_with fail
    refine HSp.out.mono ?_
    rintro e w0 ⟨rfl, rfl⟩
    go_wp2_with fail
    refine HC.out.mono ?_
    rintro e w1 ⟨⟨a1, n1, c1, rfl, rfl, hP⟩, u1⟩
    obtain ⟨b, c2, e2, hk⟩ := hP
    rw [HL.out] at e2
    injection e2 with e3 _ e4
    subst e3; subst e4
    have HK := Lib.hid hk; have U1 := Lib.hid u1
    clear hk u1
    go_wp2_with fail
    go_loopw [9, 24] (fun v i wr => ∃ k : Nat, k ≤ n1 ∧ i = .int .i64 k ∧ wr.ownsRow w1.heap.size 3 1 v k (i64s ((ps.take k).map tnV)) ∧ Upd NoB w1 wr) (fun _ i _ => n1 - (intOf i).toNat)
    case atStart => exact ⟨0, Nat.zero_le _, rfl, World.ownsRow_nil _ _ _ _, Upd.refl _ _⟩
    case round =>
      obtain ⟨k, hk, rfl, hown, hu⟩ := hrel
      obtain ⟨va, vc, rfl⟩ := row_form hown
      have HOw := Lib.hid hown; have HU := Lib.hid hu
      have hb2 := hu.size
      by_cases hlt : k < n1
      · obtain ⟨x, hx⟩ : ∃ x, ps[k]? = some x := ⟨_, List.getElem?_eq_getElem (by rw [HL.out]; exact hlt)⟩
        obtain ⟨xa, xc, cx, ix⟩ := HK.out k x hx
        have c0 := hu.cell cx (noB _)
        have HFx := Lib.hid (rtone_any _ x wr (ix.later hu) (HOk.out k x hx).1 (HOk.out k x hx).2.1 (HOk.out k x hx).2.2)
        generalize x.length = xl at *
        have HM := Lib.hid (mmap_take (f := tnV) hx)
        generalize (ps.take k).map tnV = ys at *
        generalize tnV x = y at *
        clear hx hown hu cx ix
        go_wp2_with fail
        refine HFx.out.mono ?_
        rintro r w2 ⟨rfl, rfl⟩
        go_wp2_with (at_builtin; refine wpList_push rfl (.tmp 28) (.tmp 31) rfl w1.heap.size (.slice va k vc) k ys y rfl rfl HOw.out (by omega) hb2 ?_; intro v' w' hown' u'; have R' := Lib.hid hown'; have U' := Lib.hid u'; clear hown' u')
        go_roundw
        case rel => exact ⟨k + 1, by omega, by go_num, by rw [HM.out]; exact R'.out, upd_ge ((upd_ge' HU.out w1.heap.size).trans U'.out (fun _ _ h => h))⟩
        case measure => simp [intOf]; omega
      · obtain rfl : k = n1 := by omega
        rw [HE.out] at HOw
        clear hlt hown hu
        go_wp2_with fail
        go_ret2
        exact ⟨_, _, _, rfl, by rw [HLn.out]; exact row_base HOw.out U1.out.size, U1.out.then HU.out⟩
  · have HS := Lib.hid (show toS c s gs = [] from if_neg hE)
    have t1 : (spE c s gs != 0) = true := by rw [bne_iff_ne]; exact hE
    obtain ⟨ca, cc, rfl⟩ := hc.form
    obtain ⟨a, cap, rfl⟩ := h.form
    rw [HS.out]
    generalize spE c s gs = E at *
    generalize c.length = n at *
    generalize gs.length = L at *
    clear h hc hE
    go_enter Tryd.func42, Tryd.ntmps42
    go_wp2_with fail
    refine HSp.out.mono ?_
    rintro e w0 ⟨rfl, rfl⟩
    go_wp2_with fail
    go_ret2
    exact ⟨none, 0, 0, rfl, World.ownsRow_nil _ _ _ _, Upd.refl _ _⟩
end Go.Proofs.YtgdndcbcdoogpaaDoor
