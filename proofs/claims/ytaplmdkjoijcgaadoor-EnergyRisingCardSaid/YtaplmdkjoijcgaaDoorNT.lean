/- bands: pieces -/
import Derived.Test.YtaplmdkjoijcgaaDoorNS
import Derived.Test.YtaplmdkjoijcgaaDoorRQ
namespace Go.Proofs.YtaplmdkjoijcgaaDoor
open Go.RowKit Go.Shelf
attribute [local go_sem] Oper.semAt_some

theorem pieces_any (ln : Int) (aw ag : Option Addr) (N M cw cg : Nat) (w : World) : Calls Tryd.prog 57 #[.agg #[.int .i64 ln, .slice aw N cw, .slice ag M cg]] w fun e w' =>
    e = .returned (.func (.func 87) #[] #[.pointer (some ⟨w.heap.size, 0, none⟩)]) ∧ w' = w.alloc (.cells #[.int .i64 ln, .slice aw N cw, .slice ag M cg] 52) := by
  go_enter Tryd.func57, Tryd.ntmps57
  go_wp2
  go_ret
  exact ⟨rfl, rfl⟩
theorem spT_nn {ws : List Int} (h : ∀ x ∈ ws, 0 ≤ x) : ∀ k : Nat, 0 ≤ spT ws k
  | 0 => by simp [spT]
  | k + 1 => by
    have ih := spT_nn h k
    cases e : ws[k]? with
    | none =>
      have : spT ws (k + 1) = spT ws k := by unfold spT; rw [List.take_add_one, e]; simp
      omega
    | some x =>
      have := h x (List.mem_of_getElem? e)
      rw [spT_succ e]; omega
abbrev encP (x : Int × Int) : Array Value := #[.agg #[.int .i64 x.1, .int .i64 x.2]]
set_option maxRecDepth 100000 in
set_option maxHeartbeats 4000000 in
theorem pieces1_in (l B n : Nat) (ln : Int) (aw ag : Option Addr) (ws gs : List Int) (cw cg : Nat) (R : Nat → Prop) (hln : 0 ≤ ln ∧ ln ≤ 128) (bw : ws.length ≤ 15 ∧ ∀ x ∈ ws, 0 ≤ x ∧ x ≤ 128) (bg : gs.length ≤ 8 ∧ ∀ x ∈ gs, 0 ≤ x ∧ x ≤ 8)
    (J : List (Int × Int) → World → Prop) (W : World) (hJ : OwnM W.heap.size 0 J)
    (hY : ∀ pre x V, J pre V → pre ++ [x] <+: pcL ln ws gs → W.heap.size ≤ V.heap.size → YieldAt Fence.wide (n - 1) Tryd.prog l (encP x) V fun e V' => e = .returned (.bool true) ∧ J (pre ++ [x]) V' ∧ KpC R V V')
    (hb : W.heap[B]? = some (.cells #[.int .i64 ln, .slice aw ws.length cw, .slice ag gs.length cg] 52 (0, 0)))
    (hw : Ints W (.slice aw ws.length cw) ws) (hg : Ints W (.slice ag gs.length cg) gs) (hRB : ¬ R B) (hRw : ∀ b, (Value.slice aw ws.length cw).ownBlock = some b → ¬ R b) (hRg : ∀ b, (Value.slice ag gs.length cg).ownBlock = some b → ¬ R b)
    (hRl : ∀ k, R k → k < W.heap.size) (h0 : J [] W) :
    CallsIn Fence.wide n Tryd.prog 87 #[.func (.yield l) #[] #[], .pointer (some ⟨B, 0, none⟩)] W fun e W' => (∃ v, e = .returned v) ∧ J (pcL ln ws gs) W' := by
  refine callsIn_of_wp Tryd.func87 rfl trivial ?_ rfl
  simp only [Tryd.ntmps87, List.size_toArray, List.length_cons, List.length_nil, Nat.reduceAdd, Nat.reduceSub, Array.replicate_succ, Array.replicate_zero, List.push_toArray, List.append_toArray, List.nil_append, List.cons_append]
  have HY := Lib.hid @hY; clear hY
  have HJ := Lib.hid hJ; clear hJ
  have BW := Lib.hid bw; have BG := Lib.hid bg; have HLn := Lib.hid hln
  have HB := Lib.hid hb; have XW := Lib.hid hw; have XG := Lib.hid hg
  have HRB := Lib.hid hRB; have HRw := Lib.hid hRw; have HRg := Lib.hid hRg; have HRl := Lib.hid hRl
  have PFm := Lib.hid (fun i (hi : i < gs.length) j (hj : j < ws.length) q (hq : q < (gs.getD i 0).toNat) => (show (List.range i).flatMap (pcI ln ws gs) ++ ((List.range j).flatMap (pcJ ln ws gs i) ++ ((List.range q).map (pcA ln ws gs i j) ++ [pcA ln ws gs i j q])) <+: pcL ln ws gs from fm_prefix (pcI ln ws gs) hi (fm_prefix (pcJ ln ws gs i) hj (map_prefix (pcA ln ws gs i j) hq))))
  have HEnd := Lib.hid (show (List.range gs.length).flatMap (pcI ln ws gs) = pcL ln ws gs from rfl)
  have HSpg := Lib.hid (fun k => spT_bd (ws := gs) (fun x hx => by have := bg.2 x hx; omega) k)
  have HSpw := Lib.hid (fun k => spT_bd (ws := ws) (fun x hx => by have := bw.2 x hx; omega) k)
  have hN15 := bw.1
  have hM8 := bg.1
  obtain ⟨N, hN⟩ : ∃ N, ws.length = N := ⟨_, rfl⟩
  obtain ⟨M, hM⟩ : ∃ M, gs.length = M := ⟨_, rfl⟩
  have HN := Lib.hid hN; have HM := Lib.hid hM
  rw [hN] at HB XW HRw hN15 PFm hb
  rw [hM] at HB XG HRg hM8 PFm HEnd hb
  have c2 : W.cell? ⟨B, 2, none⟩ = some (.slice ag M cg) := blk_cell hb 2
  clear hb hw hg hRB hRw hRg hRl bw bg hln hN hM
  gi_wp2
  clear c2
  gi_loopw [3, 13] (fun f i wr => ∃ k : Nat, k ≤ M ∧ i = .int .i64 k ∧ f = .int .i64 (spT gs k) ∧ J ((List.range k).flatMap (pcI ln ws gs)) wr ∧ KpC R W wr) (fun _ i _ => M - (intOf i).toNat)
  case atStart => exact ⟨0, Nat.zero_le _, rfl, rfl, h0, KpC.refl _ _⟩
  case round =>
    obtain ⟨i, hi, rfl, rfl, hj, hk⟩ := hrel
    have HJi := Lib.hid hj; have HKi := Lib.hid hk
    by_cases hlt : i < M
    · obtain ⟨x, hx⟩ : ∃ x, gs[i]? = some x := ⟨_, List.getElem?_eq_getElem (by rw [HM.out]; exact hlt)⟩
      obtain ⟨x0, x8⟩ := BG.out.2 x (List.mem_of_getElem? hx)
      have hgd : gs.getD i 0 = x := by rw [List.getD_eq_getElem?_getD, hx]; rfl
      have HGd := Lib.hid hgd
      have XWr := Lib.hid (XW.out.kpC hk (fun _ => HRw.out))
      obtain ⟨b, off, e, c0⟩ := (XG.out.kpC hk (fun _ => HRg.out)).cellAt hx
      have hB := hk.2 _ _ _ _ HRB.out HB.out
      have c1 : wr.cell? ⟨B, 1, none⟩ = some (.slice aw N cw) := blk_cell hB 1
      obtain ⟨f0, f8⟩ := HSpg.out i
      have HSu := Lib.hid (spT_succ hx)
      have HFm := Lib.hid (show (List.range (i + 1)).flatMap (pcI ln ws gs) = (List.range i).flatMap (pcI ln ws gs) ++ pcI ln ws gs i by rw [List.range_succ, List.flatMap_append]; simp)
      have HPI := Lib.hid (show pcI ln ws gs i = (List.range N).flatMap (pcJ ln ws gs i) by unfold pcI; rw [HN.out])
      subst e
      clear hx hgd hj hk hB
      gi_wp2
      refine ⟨trivial, (fun h => by cases h), (callsIn_wide.2 (spans_any _ ws wr XWr.out (by rw [HN.out]; omega) (fun y hy => by have := BW.out.2 y hy; omega))).mono ?_⟩
      rintro e w4 ⟨v4, rfl, r4, u4⟩
      rw [HN.out] at r4
      obtain ⟨a4, c4, rfl⟩ := row_form r4
      have J4 := HJ.out _ wr w4 none HJi.out ⟨u4.os, u4.tape, u4.output, u4.size, fun k hk _ => u4.block k hk (noB k)⟩ (fun r e => by cases e)
      have K4 := Lib.hid (HKi.out.trans (u4.kpC (R := R) (fun _ h => h.elim)))
      have R4 := Lib.hid r4
      have HJ4 := Lib.hid J4
      have PFi := Lib.hid (fun j hj q hq => PFm.out i hlt j hj q hq)
      generalize (List.range i).flatMap (pcI ln ws gs) = PI at *
      have HBs := Lib.hid (show W.heap.size ≤ wr.heap.size from HKi.out.1)
      clear u4 r4 J4 c0 c1
      gi_wp2
      gi_loopw [21] (fun j wr => ∃ t : Nat, t ≤ N ∧ j = .int .i64 t ∧ J (PI ++ (List.range t).flatMap (pcJ ln ws gs i)) wr ∧ KpC R w4 wr) (fun j _ => N - (intOf j).toNat)
      case atStart => exact ⟨0, Nat.zero_le _, rfl, by simpa using HJ4.out, KpC.refl _ _⟩
      case round =>
        obtain ⟨t, ht, rfl, hj, hk⟩ := hrel
        have HJt := Lib.hid hj; have HKt := Lib.hid hk
        by_cases hlt2 : t < N
        · obtain ⟨g4, c4', e4⟩ := row_slice R4.out (by omega)
          injection e4 with e5 _ e6
          subst e5; subst e6
          have hg4 := (R4.out.lt g4 rfl).1
          have hnR : ¬ R g4 := fun h => by have := HRl.out g4 h; have := HBs.out; omega
          obtain ⟨s1, s2⟩ := spC_get (ws := ws) hlt2
          have d0 := R4.out.cellAt (2 * t) (by omega)
          have d1 := R4.out.cellAt (2 * t + 1) (by omega)
          rw [s1] at d0
          rw [s2] at d1
          rw [Nat.mul_comm] at d0 d1
          have d0 := HKt.out.cell (p := ⟨g4, t * 2, none⟩) hnR d0
          have d1 := HKt.out.cell (p := ⟨g4, t * 2 + 1, none⟩) hnR d1
          have HDt := Lib.hid (show (spT ws (t + 1)) = spT ws (t + 1) from rfl)
          have hb0 := HSpw.out t
          have hb1 := HSpw.out (t + 1)
          have HFj := Lib.hid (show (List.range (t + 1)).flatMap (pcJ ln ws gs i) = (List.range t).flatMap (pcJ ln ws gs i) ++ pcJ ln ws gs i t by rw [List.range_succ, List.flatMap_append]; simp)
          have HPJ := Lib.hid (show pcJ ln ws gs i t = (List.range x.toNat).map (pcA ln ws gs i t) by unfold pcJ; rw [HGd.out])
          have HPc := Lib.hid (fun q : Nat => show pcA ln ws gs i t q = (ln * (spT gs i + q) + spT ws t, ln * (spT gs i + q) + spT ws (t + 1)) from rfl)
          have PF := Lib.hid (fun q (hq : q < x.toNat) => PFi.out t hlt2 q (by rw [HGd.out]; exact hq))
          generalize spT ws (t + 1) = to at *
          generalize spT ws t = fr at *
          obtain ⟨W5, hW5⟩ : ∃ W5, W5 = wr.alloc (.cells #[.int .i64 fr, .int .i64 to] 66) := ⟨_, rfl⟩
          have u5 : Upd NoB wr W5 := by rw [hW5]; exact (Upd.refl _ _).alloc _
          have n5 : W5.heap[wr.heap.size]? = some (.cells #[.int .i64 fr, .int .i64 to] 66 (0, 0)) := by rw [hW5]; exact heap_alloc_new wr _
          have J5 := HJ.out _ wr W5 none HJt.out ⟨u5.os, u5.tape, u5.output, u5.size, fun k hk _ => u5.block k hk (noB k)⟩ (fun r e => by cases e)
          have K5 := Lib.hid (HKt.out.trans (u5.kpC (R := R) (fun _ h => h.elim)))
          have hnR5 := Lib.hid (show ¬ R wr.heap.size from fun h => by have := HRl.out _ h; have := HBs.out; have := HKi.out.1; have := K4.out.1; have := HKt.out.1; omega)
          have N5 := Lib.hid n5; have HJ5 := Lib.hid J5; have HW5 := Lib.hid hW5
          obtain ⟨bx, hbx⟩ : ∃ bx, wr.heap.size = bx := ⟨_, rfl⟩
          have HBx := Lib.hid hbx
          rw [hbx] at N5 hnR5
          clear s1 s2 u5 n5 J5 hj hk hnR hg4 hW5 hbx
          gi_wp2
          rw [← HW5.out, HBx.out]
          obtain ⟨xn, rfl⟩ := Int.eq_ofNat_of_zero_le x0
          rw [Int.toNat_natCast] at HPJ PF
          gi_loopw [26] (fun q' wr => ∃ q : Nat, q ≤ xn ∧ q' = .int .i64 q ∧ J (PI ++ ((List.range t).flatMap (pcJ ln ws gs i) ++ (List.range q).map (pcA ln ws gs i t))) wr ∧ KpC R W5 wr) (fun q' _ => xn - (intOf q').toNat)
          case atStart => exact ⟨0, Nat.zero_le _, rfl, by simpa using HJ5.out, KpC.refl _ _⟩
          case round =>
            obtain ⟨q, hq, rfl, hj, hk⟩ := hrel
            have HJq := Lib.hid hj; have HKq := Lib.hid hk
            by_cases hlt3 : q < xn
            · have n5 := hk.2 _ _ _ _ hnR5.out N5.out
              have e0 : wr.cell? ⟨bx, 0, none⟩ = some (.int .i64 fr) := blk_cell n5 0
              have e1 : wr.cell? ⟨bx, 1, none⟩ = some (.int .i64 to) := blk_cell n5 1
              have hB := (K5.out.trans hk).2 _ _ _ _ HRB.out (K4.out.2 _ _ _ _ HRB.out HB.out)
              have c0 : wr.cell? ⟨B, 0, none⟩ = some (.int .i64 ln) := blk_cell hB 0
              have HMq := Lib.hid (show (List.range (q + 1)).map (pcA ln ws gs i t) = (List.range q).map (pcA ln ws gs i t) ++ [pcA ln ws gs i t q] by rw [List.range_succ, List.map_append]; rfl)
              have PFq := Lib.hid (PF.out q hlt3)
              have HPq := Lib.hid (HPc.out q)
              have HVs := Lib.hid (show W.heap.size ≤ wr.heap.size from (K4.out.trans (K5.out.trans hk)).1)
              generalize pcA ln ws gs i t q = px at *
              obtain ⟨l0, l1⟩ := HLn.out
              obtain ⟨S, hS⟩ : ∃ S, ln * (spT gs i + (q : Int)) = S := ⟨_, rfl⟩
              have hSb : 0 ≤ S ∧ S ≤ 128 * 2000 := by
                have hs0 : 0 ≤ spT gs i + (q : Int) := by omega
                rw [← hS]; exact ⟨Int.mul_nonneg l0 hs0, Int.mul_le_mul l1 (by omega) hs0 (by omega)⟩
              have hw1 : wrap64 (ln * (spT gs i + (q : Int))) = S := by rw [hS]; exact IntWalk.wrap64_in _ (by omega)
              have hw2 : IntKind.i64.wrap (ln * (spT gs i + (q : Int))) = S := by rw [hS]; exact IntWalk.i64_in _ (by omega)
              rw [hS] at HPq
              have HYq := Lib.hid (HY.out _ (S + fr, S + to) wr HJq.out (by rw [← HPq.out, List.append_assoc, List.append_assoc]; exact PFq.out) HVs.out)
              clear hS hj hk n5 hB
              obtain ⟨fn, tmps, assign, body, hy0, hR⟩ := HYq.out
              simp only [encP] at hy0
              gi_wp2
              refine ⟨(fun h => by cases h), hR.mono ?_⟩
              rintro e W9 ⟨rfl, hJ9, hk9⟩
              have HJ9 := Lib.hid hJ9; have HK9 := Lib.hid (HKq.out.trans hk9)
              clear hJ9 hk9
              gi_wp2
              go_roundw
              case rel => exact ⟨q + 1, by omega, by go_num, by rw [HMq.out, HPq.out, ← List.append_assoc (List.flatMap _ _), ← List.append_assoc PI]; exact HJ9.out, HK9.out⟩
              case measure => simp [intOf]; omega
            · obtain rfl : q = xn := by omega
              clear hj hk
              gi_wp2
              go_roundw
              case rel => exact ⟨t + 1, by omega, by go_num, by rw [HFj.out, HPJ.out]; exact HJq.out, K5.out.trans HKq.out⟩
              case measure => simp [intOf]; omega
        · obtain rfl : t = N := by omega
          clear hj hk
          gi_wp2
          go_roundw
          case rel => exact ⟨i + 1, by omega, by go_num, by rw [HSu.out], by rw [HFm.out, HPI.out]; exact HJt.out, K4.out.trans HKt.out⟩
          case measure => simp [intOf]; omega
    · obtain rfl : i = M := by omega
      clear hj hk
      gi_wp2
      go_end0
      exact ⟨⟨_, rfl⟩, by rw [← HEnd.out]; exact HJi.out⟩
end Go.Proofs.YtaplmdkjoijcgaaDoor
