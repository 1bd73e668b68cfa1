/- energy: the reference's Total, Levels, Blocks -/
import Derived.Test.YtgdndcbcdoogpaaDoorEB
namespace Go.Proofs.YtgdndcbcdoogpaaDoor
open Go.RowKit Go.Shelf

theorem run_slice_ft (w : World) (a : Option Addr) (n cap f t : Nat) (hf : f ≤ t) (ht : t ≤ cap) :
    (Instr.slice 22 (.slice a n cap) (some (.int .i64 f)) (some (.int .i64 t)) none).run Tryd.prog w = .ok (.slice (if cap = f then a else a.map (fun p => p.add (f * 1))) (t - f) (cap - f)) w := by
  have h1 : (0 : Int) ≤ (t : Int) ∧ (t : Int) ≤ (cap : Int) := ⟨by omega, by omega⟩
  have h3 : (0 : Int) ≤ (f : Int) ∧ (f : Int) ≤ (t : Int) := ⟨by omega, by omega⟩
  have hsz : (sizeOf 3).run Tryd.prog w = .ok 1 w := by kernel_rfl
  have hu : (underlying 22).run Tryd.prog w = .ok (.slice 3) w := by kernel_rfl
  simp [Instr.slice, Instr.sliceBounds, Instr.sliceBound, asIntOf, Sem.run_bind, Result.andThen, hu, hsz, h1, h3, Int.toNat_natCast, hf, ht]
set_option maxRecDepth 100000 in
set_option maxHeartbeats 2000000 in
theorem rTotal_any (cv : Value) (c : List Int) (s : Bool) (v : Value) (gs : List Int) (w : World) (hc : Ints w cv c) (h : Ints w v gs) : Calls Tryd.prog 40 #[cv, .bool s, v] w fun e w' => e = .returned (.tuple #[.int .i64 (ttS c s gs), .int .i64 (spE c s gs)]) ∧ w = w' := by
  have HSp := Lib.hid (rspectrum_any cv c s v gs w hc h)
  by_cases hE : spE c s gs = 0
  · obtain ⟨hd, hnl, hco⟩ := spE_ok hE
    have HSq := Lib.hid (rSquares_any cv c w hc hco (by omega))
    have HT := Lib.hid (en_sum hE).2.2.2
    obtain ⟨ca, cc, rfl⟩ := hc.form
    obtain ⟨a, cap, rfl⟩ := h.form
    rw [HT.out]
    rw [hE] at HSp ⊢
    generalize sqs c = q at *
    generalize c.length = n at *
    generalize gs.length = L at *
    clear h hc hE hd hnl hco
    go_enter Tryd.func40, Tryd.ntmps40
    go_wp2_with fail
    refine HSp.out.mono ?_
    rintro e w0 ⟨rfl, rfl⟩
    go_wp2_with fail
    refine HSq.out.mono ?_
    rintro e w0 ⟨rfl, rfl⟩
    go_wp2_with fail
    go_ret2
    exact ⟨rfl, rfl⟩
  · have HS := Lib.hid (show ttS c s gs = 0 from if_neg hE)
    have t1 : (spE c s gs != 0) = true := by rw [bne_iff_ne]; exact hE
    obtain ⟨ca, cc, rfl⟩ := hc.form
    obtain ⟨a, cap, rfl⟩ := h.form
    rw [HS.out]
    generalize spE c s gs = E at *
    generalize c.length = n at *
    generalize gs.length = L at *
    clear h hc hE
    go_enter Tryd.func40, Tryd.ntmps40
    go_wp2_with fail
    refine HSp.out.mono ?_
    rintro e w0 ⟨rfl, rfl⟩
    go_wp2_with fail
    go_ret2
    exact ⟨rfl, rfl⟩
theorem lvE_bad {xs : List Int} {k : Nat} {x : Int} (hl : ¬ 32 < xs.length) (h : xs[k]? = some x) (hx : x < 0 ∨ 72057594037927936 < x) : lvE xs = 6 ∧ lvS xs = [] := by
  have e : lvE xs = 6 := by unfold lvE; rw [if_neg hl, inB_no h hx]; rfl
  exact ⟨e, by unfold lvS; rw [if_neg (by rw [e]; decide)]⟩
theorem lvE_good {xs : List Int} (hl : ¬ 32 < xs.length) (h : ∀ (j : Nat) (y : Int), xs[j]? = some y → 0 ≤ y ∧ y ≤ 72057594037927936) : lvE xs = 0 ∧ lvS xs = xs.map lv := by
  have e : lvE xs = 0 := by unfold lvE; rw [if_neg hl, inB_all h]; rfl
  exact ⟨e, by unfold lvS; rw [if_pos e]⟩
set_option maxRecDepth 100000 in
set_option maxHeartbeats 4000000 in
theorem rLevels_any (sv : Value) (xs : List Int) (w : World) (h : Ints w sv xs) : Calls Tryd.prog 44 #[sv] w (EInts w (lvS xs) (lvE xs)) := by
  obtain ⟨a, cap, rfl⟩ := h.form
  by_cases hl : 32 < xs.length
  · have e : lvE xs = 2 := if_pos hl
    have HE := Lib.hid (show lvE xs = 2 ∧ lvS xs = [] from ⟨e, by unfold lvS; rw [if_neg (by rw [e]; decide)]⟩)
    rw [HE.out.1, HE.out.2]
    generalize xs.length = L at *
    have t1 : decide ((32 : Int) < (L : Int)) = true := decide_eq_true (by omega)
    have t2 : decide (32 < L) = true := decide_eq_true hl
    clear h hl e
    go_enter Tryd.func44, Tryd.ntmps44
    go_wp2_with fail
    go_ret2
    exact ⟨none, 0, 0, rfl, World.ownsRow_nil _ _ _ _, Upd.refl _ _⟩
  · have H := Lib.hid h
    have HBad := Lib.hid (fun k x => lvE_bad (xs := xs) (k := k) (x := x) hl)
    have HGood := Lib.hid (lvE_good (xs := xs) hl)
    have HTk := Lib.hid (show (xs.take xs.length).map lv = xs.map lv by rw [List.take_length])
    have HLn := Lib.hid (show (xs.map lv).length = xs.length by rw [List.length_map])
    obtain ⟨L, hL⟩ : ∃ L, xs.length = L := ⟨_, rfl⟩
    have HL := Lib.hid hL
    rw [hL] at H hl HTk HLn ⊢
    have t1 : decide ((32 : Int) < (L : Int)) = false := decide_eq_false (by omega)
    have t2 : decide (32 < L) = false := decide_eq_false hl
    clear h hL
    go_enter Tryd.func44, Tryd.ntmps44
    go_wp2_with fail
    go_loopw [4, 12] (fun v i wr => ∃ k : Nat, k ≤ L ∧ i = .int .i64 k ∧ (∀ (j : Nat) (y : Int), j < k → xs[j]? = some y → 0 ≤ y ∧ y ≤ 72057594037927936) ∧ wr.ownsRow w.heap.size 3 1 v k (i64s ((xs.take k).map lv)) ∧ Upd NoB w wr) (fun _ i _ => L - (intOf i).toNat)
    case atStart => exact ⟨0, Nat.zero_le _, rfl, fun j y hj => by omega, World.ownsRow_nil _ _ _ _, Upd.refl _ _⟩
    case round =>
      obtain ⟨k, hk, rfl, hin, hown, hu⟩ := hrel
      obtain ⟨va, vc, rfl⟩ := row_form hown
      have HOw := Lib.hid hown; have HU := Lib.hid hu; have HIn := Lib.hid hin
      have hb2 := hu.size
      clear hin
      by_cases hlt : k < L
      · obtain ⟨x, hx⟩ : ∃ x, xs[k]? = some x := ⟨_, List.getElem?_eq_getElem (by rw [HL.out]; exact hlt)⟩
        obtain ⟨bb, off, rfl, c0⟩ := (H.out.later hu).cellAt hx
        by_cases hlo : x < 0
        · have s1 : decide (x < 0) = true := decide_eq_true hlo
          have HB := Lib.hid (HBad.out k x hx (.inl hlo))
          clear hx hlo hown hu
          go_wp2_with fail
          go_ret2
          rw [HB.out.1, HB.out.2]
          exact ⟨none, 0, 0, rfl, World.ownsRow_nil _ _ _ _, HU.out⟩
        · have s1 : decide (x < 0) = false := decide_eq_false hlo
          by_cases hhi : 72057594037927936 < x
          · have s2 : decide (72057594037927936 < x) = true := decide_eq_true hhi
            have HB := Lib.hid (HBad.out k x hx (.inr hhi))
            clear hx hlo hhi hown hu
            go_wp2_with fail
            go_ret2
            rw [HB.out.1, HB.out.2]
            exact ⟨none, 0, 0, rfl, World.ownsRow_nil _ _ _ _, HU.out⟩
          · have s2 : decide (72057594037927936 < x) = false := decide_eq_false hhi
            have HM := Lib.hid (show ∀ (j : Nat) (y : Int), j < k + 1 → xs[j]? = some y → 0 ≤ y ∧ y ≤ 72057594037927936 from fun j y hj hy => by
              by_cases e : j = k
              · subst e; rw [hx] at hy; cases hy; omega
              · exact HIn.out j y (by omega) hy)
            have HTs := Lib.hid (mmap_take (f := lv) hx)
            have HLv := Lib.hid (rLevel_any x wr (by omega) (by omega))
            have z1 : wrap64 (x + 1) = x + 1 := IntWalk.wrap64_in _ (by omega)
            have z2 : IntKind.i64.wrap (x + 1) = x + 1 := IntWalk.i64_in _ (by omega)
            obtain ⟨ys, hys⟩ : ∃ ys, (xs.take k).map lv = ys := ⟨_, rfl⟩
            obtain ⟨y, hy⟩ : ∃ y, lv x = y := ⟨_, rfl⟩
            rw [hys] at HOw HTs
            rw [hy] at HTs HLv
            clear hx hlo hown hu hys hy HTk HGood HBad HLn
            go_wp2_with fail
            refine HLv.out.mono ?_
            rintro r w2 ⟨rfl, rfl⟩
            go_wp2_with (at_builtin; refine wpList_push rfl (.tmp 22) (.tmp 26) rfl w.heap.size (.slice va k vc) k ys y rfl rfl HOw.out (by omega) hb2 ?_; intro v' w' hown' u'; have R' := Lib.hid hown'; have U' := Lib.hid u'; clear hown' u')
            go_roundw
            case rel => exact ⟨k + 1, by omega, by go_num, HM.out, by rw [HTs.out]; exact R'.out, upd_ge ((upd_ge' HU.out w.heap.size).trans U'.out (fun _ _ h => h))⟩
            case measure => simp [intOf]; omega
      · obtain rfl : k = L := by omega
        have HG := Lib.hid (HGood.out fun j y hy => HIn.out j y (by have := (List.getElem?_eq_some_iff.1 hy).1; rw [HL.out] at this; exact this) hy)
        rw [HTk.out] at HOw
        clear hlt hown hu
        go_wp2_with fail
        go_ret2
        rw [HG.out.1, HG.out.2]
        exact ⟨_, _, _, rfl, by rw [HLn.out]; exact HOw.out, HU.out⟩
theorem bk_at {c : List Int} (k : Nat) : (List.range (k + 1)).map (fun k => sqs ((c.drop (16 * k)).take 16)) = (List.range k).map (fun k => sqs ((c.drop (16 * k)).take 16)) ++ [sqs ((c.drop (16 * k)).take 16)] := by
  rw [List.range_succ, List.map_append]; rfl
set_option maxRecDepth 100000 in
set_option maxHeartbeats 4000000 in
theorem rBlocks_any (cv : Value) (c : List Int) (w : World) (hc : Ints w cv c) : Calls Tryd.prog 46 #[cv] w (EInts w (blS c) (blE c)) := by
  have HW := Lib.hid (rWithin_any 2097152 cv c w (by decide) hc)
  obtain ⟨ca, cc, rfl⟩ := hc.form
  by_cases hn : c.length = 128
  · have HE0 := Lib.hid (show blE c = if inB (-2097152) 2097152 c then 0 else 6 from if_pos hn)
    cases hin : inB (-2097152) 2097152 c with
    | false =>
      have HE := Lib.hid (show blE c = 6 by rw [HE0.out, hin]; rfl)
      have HS := Lib.hid (show blS c = [] from if_neg (by rw [HE.out]; decide))
      rw [HE.out, HS.out]
      rw [hin] at HW
      rw [hn] at HW ⊢
      clear hc hn hin
      go_enter Tryd.func46, Tryd.ntmps46
      go_wp2_with fail
      refine HW.out.mono ?_
      rintro e w1 ⟨rfl, rfl⟩
      go_wp2_with fail
      go_ret2
      exact ⟨none, 0, 0, rfl, World.ownsRow_nil _ _ _ _, Upd.refl _ _⟩
    | true =>
      have HE := Lib.hid (show blE c = 0 by rw [HE0.out, hin]; rfl)
      have HS := Lib.hid (show blS c = (List.range 8).map (fun k => sqs ((c.drop (16 * k)).take 16)) by
        have e : blS c = (bkL c).map sqs := if_pos HE.out
        rw [e]; unfold bkL; rw [List.map_map]; rfl)
      have HLn := Lib.hid (show ((List.range 8).map (fun k => sqs ((c.drop (16 * k)).take 16))).length = 8 by simp)
      have HOk := Lib.hid (fun k (hk : k < 8) => bkL_ok (xs := (c.drop (16 * k)).take 16) (k := k) hn (coB_of hin) (by unfold bkL; rw [List.getElem?_map, List.getElem?_range hk]; rfl))
      have HL16 := Lib.hid (fun k (hk : k < 8) => (show ((c.drop (16 * k)).take 16).length = 16 by rw [List.length_take, List.length_drop, hn]; omega))
      have hcap : 128 ≤ cc := by
        obtain ⟨_, a', c', e, ⟨hcc, _⟩, _⟩ := hc
        injection e with _ _ e3
        rw [hn] at hcc
        omega
      have HC := Lib.hid (show ∀ w', Upd NoB w w' → Ints w' (.slice ca 128 cc) c from fun w' u => by rw [← hn]; exact hc.later u)
      obtain ⟨b0, o0, hca⟩ : ∃ b off, ca = some ⟨b, off, none⟩ := by
        obtain ⟨x0, hx0⟩ : ∃ x, c[0]? = some x := ⟨_, List.getElem?_eq_getElem (by omega)⟩
        obtain ⟨b, off, e, _⟩ := hc.cellAt hx0
        exact ⟨b, off, e⟩
      subst hca
      rw [HE.out, HS.out]
      rw [hin] at HW
      rw [hn] at HW ⊢
      clear hc hn hin
      go_enter Tryd.func46, Tryd.ntmps46
      go_wp2_with fail
      refine HW.out.mono ?_
      rintro e w1 ⟨rfl, rfl⟩
      go_wp2_with fail
      go_loopw [4, 12] (fun v i wr => ∃ k : Nat, k ≤ 8 ∧ i = .int .i64 k ∧ wr.ownsRow w.heap.size 3 1 v k (i64s ((List.range k).map (fun k => sqs ((c.drop (16 * k)).take 16)))) ∧ Upd NoB w wr) (fun _ i _ => 8 - (intOf i).toNat)
      case atStart => exact ⟨0, Nat.zero_le _, rfl, World.ownsRow_nil _ _ _ _, Upd.refl _ _⟩
      case round =>
        obtain ⟨k, hk, rfl, hown, hu⟩ := hrel
        obtain ⟨va, vc, rfl⟩ := row_form hown
        have HOw := Lib.hid hown; have HU := Lib.hid hu
        have hb2 := hu.size
        by_cases hlt : k < 8
        · have hf1 : wrap64 (16 * (k : Int)) = ((16 * k : Nat) : Int) := by rw [IntWalk.wrap64_in _ (by omega)]; omega
          have hf2 : IntKind.i64.wrap (16 * (k : Int)) = ((16 * k : Nat) : Int) := by rw [IntWalk.i64_in _ (by omega)]; omega
          obtain ⟨F, hF⟩ : ∃ F, 16 * k = F := ⟨_, rfl⟩
          rw [hF] at hf1 hf2
          obtain ⟨T, hT⟩ : ∃ T, F + 16 = T := ⟨_, rfl⟩
          have ht1 : wrap64 ((F : Int) + 16) = (T : Int) := by rw [IntWalk.wrap64_in _ (by omega)]; omega
          have ht2 : IntKind.i64.wrap ((F : Int) + 16) = (T : Int) := by rw [IntWalk.i64_in _ (by omega)]; omega
          have hFT : F ≤ T := by omega
          have hT8 : T ≤ 128 := by omega
          have hsl := fun w => run_slice_ft w (some ⟨b0, o0, none⟩) 128 cc F T hFT (by omega)
          have hne : ¬ cc = F := by omega
          rw [if_neg hne, Option.map_some, addr_add, Nat.mul_one, show T - F = 16 by omega] at hsl
          have HI := Lib.hid (show Ints wr (.slice (some ⟨b0, o0 + F, none⟩) 16 (cc - F)) ((c.drop (16 * k)).take 16) from by
            have h1 := Ints.sub (HC.out wr hu) (16 * k) 16 (cc - F) rfl (by rw [HL16.out k hlt]; omega) (by rw [HL16.out k hlt]; omega)
            rw [HL16.out k hlt, hF] at h1
            rw [hF]
            exact h1)
          have HSq := Lib.hid (rSquares_any _ _ wr HI.out (HOk.out k hlt).1 (HOk.out k hlt).2.2)
          have HM := Lib.hid (bk_at (c := c) k)
          generalize (List.range k).map (fun k => sqs ((c.drop (16 * k)).take 16)) = ys at *
          generalize sqs ((c.drop (16 * k)).take 16) = y at *
          clear hown hu hF hT hne
          go_wp2_with fail
          refine HSq.out.mono ?_
          rintro r w2 ⟨rfl, rfl⟩
          go_wp2_with (at_builtin; refine wpList_push rfl (.tmp 15) (.tmp 24) rfl w.heap.size (.slice va k vc) k ys y rfl rfl HOw.out (by omega) hb2 ?_; intro v' w' hown' u'; have R' := Lib.hid hown'; have U' := Lib.hid u'; clear hown' u')
          go_roundw
          case rel => exact ⟨k + 1, by omega, by go_num, by rw [HM.out]; exact R'.out, upd_ge ((upd_ge' HU.out w.heap.size).trans U'.out (fun _ _ h => h))⟩
          case measure => simp [intOf]; omega
        · obtain rfl : k = 8 := by omega
          clear hlt hown hu
          go_wp2_with fail
          go_ret2
          exact ⟨_, _, _, rfl, by rw [HLn.out]; exact HOw.out, HU.out⟩
  · have HE := Lib.hid (show blE c = 4 from if_neg hn)
    have HS := Lib.hid (show blS c = [] from if_neg (by rw [HE.out]; decide))
    have t1 : ((c.length : Int) != 128) = true := by rw [bne_iff_ne]; omega
    rw [HE.out, HS.out]
    generalize c.length = n at *
    clear hc hn
    go_enter Tryd.func46, Tryd.ntmps46
    go_wp2_with fail
    go_ret2
    exact ⟨none, 0, 0, rfl, World.ownsRow_nil _ _ _ _, Upd.refl _ _⟩
end Go.Proofs.YtgdndcbcdoogpaaDoor
