/- bands: the widths of all bands -/
import Derived.Test.YtaplmdkjoijcgaaDoorNB
import Derived.Deep.AppendLies
namespace Go.Proofs.YtaplmdkjoijcgaaDoor
open Go.RowKit Go.Shelf

theorem wpList_push {w : World} {ops : Array Oper} {rest : List Oper} {o : Oper} {a : Act} {Q : Exit → Act → World → Prop} (hgd : o.guard = none) (s x : Operand)
    (ho : o.op = .call { callee := .builtin .append, args := #[s, x], argTypes := #[22, 22] }) (B : Nat) (v : Value) (n : Nat) (xs : List Int) (y : Int) (hs : a.eval s = v) (hx : a.eval x = .slice (some ⟨w.heap.size, 0, none⟩) 1 1)
    (hown : w.ownsRow B 3 1 v n (i64s xs)) (hn : n ≤ 1000000) (hB : B ≤ w.heap.size)
    (hK : ∀ v' w', w'.ownsRow B 3 1 v' (n + 1) (i64s (xs ++ [y])) → Upd (fun k => B ≤ k) w w' → wpList Tryd.prog ops Q rest (a.put o.dst v') w') : wpList Tryd.prog ops Q (o :: rest) a (w.alloc (.cells #[.int .i64 y] 3)) := by
  obtain ⟨i0, hi, hz0, hz1, hz2⟩ := info_parts Tryd.infoInt
  have u : Upd NoB w (w.alloc (.cells #[.int .i64 y] 3)) := (Upd.refl _ _).alloc _
  refine wpList_append_own (w := w.alloc (.cells #[.int .i64 y] 3)) hgd s x 22 ho B 3 i0 (.int .i64 0) 1 8 Tryd.underlying22 hi hz0 hz1 hz2 rfl (by decide) v n (i64s xs) hs (u.row hown (fun k _ => noB k)) ⟨w.heap.size, 0, none⟩ 1 1 [.int .i64 y] hx rfl (World.news_of_block (heap_alloc_new w _)) (by intro u hu; rw [List.mem_singleton] at hu; subst hu; rfl) (by unfold maxLen; omega) (by omega) (Nat.le_trans hB u.size) ?_
  intro v' w' hown' hgr _
  refine hK v' w' (by rw [i64s_append]; exact hown') ?_
  exact ((u.mono (T := fun k => B ≤ k) (fun _ _ h => h.elim))).grown hgr (fun k hk _ => (hown.lt k hk).1)
theorem upd_ge {w w' : World} (h : Upd (fun k => w.heap.size ≤ k) w w') : Upd NoB w w' := h.mono (fun k hk h => by omega)
theorem upd_ge' {w w' : World} (h : Upd NoB w w') (B : Nat) : Upd (fun k => B ≤ k) w w' := h.mono (fun _ _ h => h.elim)
theorem made_zero (n : Nat) : (madeCells #[Value.int .i64 0] n).toList = i64s (List.replicate n 0) := by
  rw [toList_madeCells_one]; simp [i64s]
def bwK (ws gs : List Int) (k : Nat) : List Int := bwL ws (gs.take k)
theorem bwK_succ {ws gs : List Int} {k : Nat} {x : Int} (h : gs[k]? = some x) : bwK ws gs (k + 1) = bwK ws gs k ++ ws.map (fun w => x * w) := by
  unfold bwK bwL
  rw [List.take_add_one, h, List.flatMap_append]; simp
theorem bwK_len (ws gs : List Int) : ∀ k : Nat, (bwK ws gs k).length ≤ ws.length * k
  | 0 => by simp [bwK, bwL]
  | k + 1 => by
    have ih := bwK_len ws gs k
    cases h : gs[k]? with
    | none =>
      have : bwK ws gs (k + 1) = bwK ws gs k := by unfold bwK; rw [List.take_add_one, h]; simp
      rw [this, Nat.mul_add]; omega
    | some x => rw [bwK_succ h, List.length_append, List.length_map, Nat.mul_add]; omega
theorem map_take {f : Int → Int} {ws : List Int} {t : Nat} {x : Int} (h : ws[t]? = some x) : (ws.take (t + 1)).map f = (ws.take t).map f ++ [f x] := by
  rw [List.take_add_one, h]; simp
set_option maxRecDepth 100000 in
set_option maxHeartbeats 4000000 in
theorem bandWidths_any (l : Int) (vw vg : Value) (ws gs : List Int) (w : World) (hw : Ints w vw ws) (hg : Ints w vg gs) (bw : ws.length ≤ 15 ∧ ∀ x ∈ ws, 0 ≤ x ∧ x ≤ 128) (bg : gs.length ≤ 8 ∧ ∀ x ∈ gs, 0 ≤ x ∧ x ≤ 8) :
    Calls Tryd.prog 51 #[.agg #[.int .i64 l, vw, vg]] w (IRes w (bwL ws gs)) := by
  obtain ⟨aw, cw, rfl⟩ := hw.form
  obtain ⟨ag, cg, rfl⟩ := hg.form
  have BW := Lib.hid bw; have BG := Lib.hid bg
  have HAl := Lib.hid (show bwK ws gs gs.length = bwL ws gs by unfold bwK; rw [List.take_length])
  obtain ⟨N, hN⟩ : ∃ N, ws.length = N := ⟨_, rfl⟩
  obtain ⟨M, hM⟩ : ∃ M, gs.length = M := ⟨_, rfl⟩
  have HN := Lib.hid hN; have HM := Lib.hid hM
  obtain ⟨W, hW⟩ : ∃ W, W = w.alloc (.cells #[.int .i64 l, .slice aw N cw, .slice ag M cg] 52) := ⟨_, rfl⟩
  have u0 : Upd NoB w W := by rw [hW]; exact (Upd.refl _ _).alloc _
  have bx : W.heap[w.heap.size]? = some (.cells #[.int .i64 l, .slice aw N cw, .slice ag M cg] 52 (0, 0)) := by rw [hW]; exact heap_alloc_new w _
  have XW := Lib.hid (hw.later u0); have XG := Lib.hid (hg.later u0)
  have HB := Lib.hid bx; have HW := Lib.hid hW; have U0 := Lib.hid u0
  rw [hN] at XW bw ⊢
  rw [hM] at XG HAl bg ⊢
  have hN15 : N ≤ 15 := bw.1
  have hM8 : M ≤ 8 := bg.1
  have d2 : (w.alloc (.cells #[.int .i64 l, .slice aw N cw, .slice ag M cg] 52)).cell? ⟨w.heap.size, 2, none⟩ = some (.slice ag M cg) := by rw [← hW]; exact blk_cell bx 2
  clear hw hg bw bg hN hM hW u0 bx
  go_enter Tryd.func51, Tryd.ntmps51
  go_wp2_with fail
  rw [← HW.out]
  clear d2
  go_loopw [3, 11] (fun v i wr => ∃ k : Nat, k ≤ M ∧ i = .int .i64 k ∧ wr.ownsRow W.heap.size 3 1 v (bwK ws gs k).length (i64s (bwK ws gs k)) ∧ Upd NoB W wr) (fun _ i _ => M - (intOf i).toNat)
  case atStart => exact ⟨0, Nat.zero_le _, rfl, World.ownsRow_nil _ _ _ _, Upd.refl _ _⟩
  case round =>
    obtain ⟨k, hk, rfl, hown, hu⟩ := hrel
    have HOw := Lib.hid hown; have HU := Lib.hid hu
    by_cases hlt : k < M
    · obtain ⟨x, hx⟩ : ∃ x, gs[k]? = some x := ⟨_, List.getElem?_eq_getElem (by rw [HM.out]; exact hlt)⟩
      have hxb := BG.out.2 x (List.mem_of_getElem? hx)
      have XWr := Lib.hid (XW.out.later hu)
      obtain ⟨b, off, rfl, c0⟩ := (XG.out.later hu).cellAt hx
      have d1 : wr.cell? ⟨w.heap.size, 1, none⟩ = some (.slice aw N cw) := blk_cell (hu.heap HB.out (noB _)) 1
      have HT := Lib.hid (bwK_succ (ws := ws) hx)
      have hle : (bwK ws gs k).length ≤ 15 * 8 := Nat.le_trans (bwK_len ws gs k) (Nat.mul_le_mul (by rw [HN.out]; exact hN15) (by omega))
      have HTl := Lib.hid (show (bwK ws gs (k + 1)).length = (bwK ws gs k).length + N by rw [HT.out, List.length_append, List.length_map, HN.out])
      generalize bwK ws gs k = ys at *
      obtain ⟨n, hn⟩ : ∃ n, ys.length = n := ⟨_, rfl⟩
      rw [hn] at HOw HTl hle hown
      obtain ⟨va, vc, rfl⟩ := row_form hown
      clear hx hn hown hu
      obtain ⟨wo, rfl⟩ : ∃ wo : World, wo = wr := ⟨_, rfl⟩
      obtain ⟨hx0, hx8⟩ := hxb
      go_wp2_with fail
      go_loopw [3, 18] (fun v i wr => ∃ t : Nat, t ≤ N ∧ i = .int .i64 t ∧ wr.ownsRow W.heap.size 3 1 v (n + t) (i64s (ys ++ (ws.take t).map (fun w => x * w))) ∧ Upd NoB W wr) (fun _ i _ => N - (intOf i).toNat)
      case atStart => exact ⟨0, Nat.zero_le _, rfl, by rw [List.take_zero, List.map_nil, List.append_nil]; exact HOw.out, HU.out⟩
      case round =>
        obtain ⟨t, ht, rfl, hown2, hu2⟩ := hrel
        obtain ⟨va2, vc2, rfl⟩ := row_form hown2
        have HO2 := Lib.hid hown2; have HU2 := Lib.hid hu2
        have hb2 := hu2.size
        by_cases hlt2 : t < N
        · obtain ⟨y, hy⟩ : ∃ y, ws[t]? = some y := ⟨_, List.getElem?_eq_getElem (by rw [HN.out]; exact hlt2)⟩
          obtain ⟨bb, boff, rfl, c1⟩ := (XW.out.later hu2).cellAt hy
          have hyb := BW.out.2 y (List.mem_of_getElem? hy)
          have HRt := Lib.hid (show ys ++ (ws.take (t + 1)).map (fun w => x * w) = (ys ++ (ws.take t).map (fun w => x * w)) ++ [x * y] by rw [map_take hy, List.append_assoc])
          obtain ⟨q, hq⟩ : ∃ q, x * y = q := ⟨_, rfl⟩
          have hqb : 0 ≤ q ∧ q ≤ 8 * 128 := by rw [← hq]; exact ⟨Int.mul_nonneg hx0 hyb.1, Int.mul_le_mul hx8 hyb.2 hyb.1 (by omega)⟩
          have hw1 : wrap64 (x * y) = q := by rw [hq]; exact IntWalk.wrap64_in _ (by omega)
          have hw2 : IntKind.i64.wrap (x * y) = q := by rw [hq]; exact IntWalk.i64_in _ (by omega)
          rw [hq] at HRt
          generalize ys ++ (ws.take t).map (fun w => x * w) = zs at *
          obtain ⟨nt, hnt⟩ : ∃ nt, n + t = nt := ⟨_, rfl⟩
          have HNt := Lib.hid (show n + (t + 1) = nt + 1 by omega)
          rw [hnt] at HO2 ⊢
          have hnt6 : nt ≤ 1000000 := by omega
          clear hnt hy hq hown2 hu2 hyb
          go_wp2_with (at_builtin; refine wpList_push rfl (.tmp 22) (.tmp 26) rfl W.heap.size (.slice va2 nt vc2) nt zs q rfl rfl HO2.out hnt6 hb2 ?_; intro v' w' hown' u'; have R' := Lib.hid hown'; have U' := Lib.hid u'; clear hown' u')
          go_roundw
          case rel => exact ⟨t + 1, by omega, by go_num, by rw [HNt.out, HRt.out]; exact R'.out, upd_ge ((upd_ge' HU2.out W.heap.size).trans U'.out (fun _ _ h => h))⟩
          case measure => simp [intOf]; omega
        · obtain rfl : t = N := by omega
          have HTk := Lib.hid (show ws.take t = ws from List.take_of_length_le (by rw [HN.out]; exact Nat.le_refl _))
          clear hown2 hu2
          go_wp2_with fail
          go_roundw
          case rel => exact ⟨k + 1, by omega, by go_num, by rw [HTl.out, HT.out]; have := HO2.out; rw [HTk.out] at this; exact this, HU2.out⟩
          case measure => simp [intOf]; omega
    · obtain ⟨va, vc, rfl⟩ := row_form hown
      clear hown hu
      obtain rfl : k = M := by omega
      go_wp2_with fail
      go_ret
      exact ⟨_, rfl, by rw [← HAl.out]; exact row_base HOw.out U0.out.size, U0.out.then HU.out⟩
end Go.Proofs.YtaplmdkjoijcgaaDoor
