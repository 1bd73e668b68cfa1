/- bands: Is, Bands, Widths and Count of the reference -/
import Derived.Test.YtaplmdkjoijcgaaDoorND
import Derived.Maps.AppendAt
namespace Go.Proofs.YtaplmdkjoijcgaaDoor
open Go.RowKit Go.Shelf

theorem isD_long {gs : List Int} {L : Nat} (h : gs.length = L) : isD false gs = decide (L = 0) := by
  subst h
  cases gs with
  | nil => rfl
  | cons x t => rfl
theorem gsum_bd {gs : List Int} {k : Nat} (h : ∀ (j : Nat) (y : Int), j < k → gs[j]? = some y → 1 ≤ y ∧ y ≤ 8) : 0 ≤ (gs.take k).sum ∧ (gs.take k).sum ≤ 8 * (k : Int) := by
  induction k with
  | zero => simp
  | succ k ih =>
    have ih := ih (fun j y hj => h j y (by omega))
    rw [List.take_add_one, List.sum_append]
    cases e : gs[k]? with
    | none => simp; omega
    | some x =>
      have := h k x (by omega) e
      simp; omega
theorem gsum_succ {gs : List Int} {k : Nat} {x : Int} (h : gs[k]? = some x) : (gs.take (k + 1)).sum = (gs.take k).sum + x := by
  rw [List.take_add_one, List.sum_append, h]; simp
theorem isG_no {gs : List Int} {k : Nat} {x : Int} (h : gs[k]? = some x) (hx : x < 1 ∨ 8 < x) : isG 8 gs = false := by
  cases e : isG 8 gs with
  | false => rfl
  | true =>
    have := (isG_bd e).2 x (List.mem_of_getElem? h)
    omega
theorem isG_far {gs : List Int} (h : 8 < gs.length) : isG 8 gs = false := by
  cases e : isG 8 gs with
  | false => rfl
  | true => have := (isG_bd e).1; omega
theorem isG_all {gs : List Int} (h : ∀ (j : Nat) (y : Int), gs[j]? = some y → 1 ≤ y ∧ y ≤ 8) : isG 8 gs = decide (gs.sum = 8) := by
  have h1 : ∀ b ∈ gs, 1 ≤ b := fun b hb => by obtain ⟨j, hj⟩ := List.getElem?_of_mem hb; exact (h j b hj).1
  cases e : isG 8 gs with
  | true => rw [decide_eq_true (isG_iff.1 e).2]
  | false =>
    rw [decide_eq_false]
    intro hs
    rw [isG_iff.2 ⟨h1, hs⟩] at e; cases e
set_option maxRecDepth 100000 in
set_option maxHeartbeats 2000000 in
theorem rIs_any (s : Bool) (v : Value) (gs : List Int) (w : World) (h : Ints w v gs) : Calls Tryd.prog 34 #[.bool s, v] w fun e w' => e = .returned (.bool (isD s gs)) ∧ w = w' := by
  obtain ⟨a, cap, rfl⟩ := h.form
  have H := Lib.hid h
  have hlb := h.1
  obtain ⟨L, hL⟩ : ∃ L, gs.length = L := ⟨_, rfl⟩
  have HL := Lib.hid hL
  rw [hL] at H hlb ⊢
  cases s with
  | false =>
    have HD := Lib.hid (isD_long hL)
    clear h hL hlb
    rw [HD.out]
    by_cases hz : L = 0
    · have t1 : decide ((L : Int) = 0) = true := decide_eq_true (by omega)
      have t1b : ((L : Int) == 0) = true := by rw [beq_iff_eq]; omega
      have t1n : decide (L = 0) = true := decide_eq_true hz
      rw [t1n]
      clear hz
      go_enter Tryd.func34, Tryd.ntmps34
      go_wp2
      go_ret
      exact ⟨rfl, rfl⟩
    · have t1 : decide ((L : Int) = 0) = false := decide_eq_false (by omega)
      have t1b : ((L : Int) == 0) = false := by rw [beq_eq_false_iff_ne]; omega
      have t1n : decide (L = 0) = false := decide_eq_false hz
      rw [t1n]
      clear hz
      go_enter Tryd.func34, Tryd.ntmps34
      go_wp2
      go_ret
      exact ⟨rfl, rfl⟩
  | true =>
    by_cases h8 : 8 < L
    · have HG := Lib.hid (show isD true gs = false from isG_far (by rw [hL]; exact h8))
      have t1 : decide ((8 : Int) < (L : Int)) = true := decide_eq_true (by omega)
      clear h hL hlb h8
      rw [HG.out]
      go_enter Tryd.func34, Tryd.ntmps34
      go_wp2
      go_ret
      exact ⟨rfl, rfl⟩
    · have t1 : decide ((8 : Int) < (L : Int)) = false := decide_eq_false (by omega)
      have hl8 : L ≤ 8 := by omega
      clear h hL hlb h8
      go_enter Tryd.func34, Tryd.ntmps34
      go_wp2
      go_loop [5, 24] (fun m i => ∃ k : Nat, k ≤ L ∧ i = .int .i64 k ∧ m = .int .i64 (gs.take k).sum ∧ (∀ (j : Nat) (y : Int), j < k → gs[j]? = some y → 1 ≤ y ∧ y ≤ 8)) (fun _ i => L - (intOf i).toNat)
      case atStart => exact ⟨0, Nat.zero_le _, rfl, rfl, fun j y hj => by omega⟩
      case round =>
        obtain ⟨k, hk, rfl, rfl, hin⟩ := hrel
        have HIn := Lib.hid hin; clear hin
        by_cases hlt : k < L
        · obtain ⟨x, hx⟩ : ∃ x, gs[k]? = some x := ⟨_, List.getElem?_eq_getElem (by rw [HL.out]; exact hlt)⟩
          obtain ⟨b, off, rfl, c0⟩ := H.out.cellAt hx
          by_cases g1 : x < 1
          · have HG := Lib.hid (show isD true gs = false from isG_no hx (.inl g1))
            have s1 : decide (x < 1) = true := decide_eq_true g1
            clear hx g1
            go_wp2
            go_ret
            exact ⟨by rw [HG.out]; rfl, rfl⟩
          have s1 : decide (x < 1) = false := decide_eq_false g1
          by_cases g2 : 8 < x
          · have HG := Lib.hid (show isD true gs = false from isG_no hx (.inr g2))
            have s2 : decide ((8 : Int) < x) = true := decide_eq_true g2
            clear hx g1 g2
            go_wp2
            go_ret
            exact ⟨by rw [HG.out]; rfl, rfl⟩
          have s2 : decide ((8 : Int) < x) = false := decide_eq_false g2
          have hb := gsum_bd HIn.out
          have HS := Lib.hid (gsum_succ hx)
          have HM := Lib.hid (show ∀ (j : Nat) (y : Int), j < k + 1 → gs[j]? = some y → 1 ≤ y ∧ y ≤ 8 from fun j y hj hy => by
            by_cases e : j = k
            · subst e; rw [hx] at hy; cases hy; omega
            · exact HIn.out j y (by omega) hy)
          generalize (gs.take k).sum = m at *
          have hx1 : 1 ≤ x := by omega
          have hx8 : x ≤ 8 := by omega
          clear hx g1 g2
          go_wp2
          go_round
          case rel => exact ⟨k + 1, by omega, by go_num, by rw [HS.out], HM.out⟩
          case measure => simp [intOf]; omega
        · obtain rfl : k = L := by omega
          have HT := Lib.hid (show (gs.take k).sum = gs.sum by rw [List.take_of_length_le (by rw [HL.out]; exact Nat.le_refl _)])
          have HG := Lib.hid (show isD true gs = decide (gs.sum = 8) from isG_all fun j y hy => HIn.out j y (by have := (List.getElem?_eq_some_iff.1 hy).1; rw [HL.out] at this; exact this) hy)
          rw [HT.out]
          generalize gs.sum = m at *
          clear hlt
          go_wp2
          go_ret
          exact ⟨by rw [HG.out]; rfl, rfl⟩
theorem wpList_pushF {w : World} {ops : Array Oper} {rest : List Oper} {o : Oper} {a : Act} {Q : Exit → Act → World → Prop} (hgd : o.guard = none) (s x : Operand)
    (ho : o.op = .call { callee := .builtin .append, args := #[s, x], argTypes := #[22, 22] }) (B : Nat) (v : Value) (n : Nat) (xs : List Int) (y : Int) (hs : a.eval s = v) (hx : a.eval x = .slice (some ⟨w.heap.size, 0, none⟩) 1 1)
    (hown : w.ownsRow B 3 1 v n (i64s xs)) (hn : n ≤ 1000000) (hB : B ≤ w.heap.size)
    (hK : ∀ v' w', w'.ownsRow B 3 1 v' (n + 1) (i64s (xs ++ [y])) → Upd (fun k => v.ownBlock = some k) w w' → (v'.ownBlock = v.ownBlock ∨ ∃ k, v'.ownBlock = some k ∧ w.heap.size ≤ k) → wpList Tryd.prog ops Q rest (a.put o.dst v') w') : wpList Tryd.prog ops Q (o :: rest) a (w.alloc (.cells #[.int .i64 y] 3)) := by
  obtain ⟨i0, hi, hz0, hz1, hz2⟩ := info_parts Tryd.infoInt
  have u : Upd NoB w (w.alloc (.cells #[.int .i64 y] 3)) := (Upd.refl _ _).alloc _
  refine wpList_append_own_at (w := w.alloc (.cells #[.int .i64 y] 3)) hgd s x 22 ho B 3 i0 (.int .i64 0) 1 8 Tryd.underlying22 hi hz0 hz1 hz2 rfl (by decide) v n (i64s xs) hs (u.row hown (fun k _ => noB k)) ⟨w.heap.size, 0, none⟩ 1 1 [.int .i64 y] hx rfl (World.news_of_block (heap_alloc_new w _)) (by intro u hu; rw [List.mem_singleton] at hu; subst hu; rfl) (by unfold maxLen; omega) (by omega) (Nat.le_trans hB u.size) ?_
  intro v' w' hown' hgr _ hat
  refine hK v' w' (by rw [i64s_append]; exact hown') ?_ ?_
  · exact ((u.mono (T := fun k => v.ownBlock = some k) (fun _ _ h => h.elim))).grown hgr (fun k hk _ => hk)
  · rcases hat with h | h
    · exact .inl h
    · exact .inr ⟨_, h, u.size⟩
set_option maxRecDepth 100000 in
theorem rlong_any (w : World) : Calls Tryd.prog 65 #[] w (IRes w lwL) := by
  go_enter Tryd.func65, Tryd.ntmps65
  go_wp2_with fail
  go_ret
  exact ⟨_, rfl, World.ownsRow_lit (base := w.heap.size) (size := 1) (e := 3) w (i64s lwL).toArray 15 (Nat.le_refl _) (by decide) rfl, (Upd.refl _ _).alloc _⟩
set_option maxRecDepth 100000 in
theorem rshort_any (w : World) : Calls Tryd.prog 66 #[] w (IRes w swL) := by
  go_enter Tryd.func66, Tryd.ntmps66
  go_wp2_with fail
  go_ret
  exact ⟨_, rfl, World.ownsRow_lit (base := w.heap.size) (size := 1) (e := 3) w (i64s swL).toArray 4 (Nat.le_refl _) (by decide) rfl, (Upd.refl _ _).alloc _⟩
set_option maxRecDepth 100000 in
set_option maxHeartbeats 4000000 in
theorem rBands_any (s : Bool) (v : Value) (gs : List Int) (w : World) (h : Ints w v gs) (hd : isD s gs = true) : Calls Tryd.prog 52 #[.bool s, v] w (IRes w (bandsL s gs)) := by
  obtain ⟨ag, cg, rfl⟩ := h.form
  cases s with
  | false =>
    have HS := Lib.hid (bandsL_long gs)
    rw [HS.out]
    clear h hd
    go_enter Tryd.func52, Tryd.ntmps52
    go_wp2_with fail
    refine (rlong_any _).mono ?_
    rintro e w2 ⟨v2, rfl, r2, u2⟩
    obtain ⟨a2, c2, rfl⟩ := row_form r2
    have R2 := Lib.hid r2; have U2 := Lib.hid u2
    clear r2 u2
    go_wp2_with fail
    go_ret
    exact ⟨_, rfl, R2.out, U2.out⟩
  | true =>
    have BG := Lib.hid (dG_bd hd)
    have XG := Lib.hid h
    have HAl := Lib.hid (show bwK swL gs gs.length = bandsL true gs by unfold bwK; rw [List.take_length]; rfl)
    obtain ⟨M, hM⟩ : ∃ M, gs.length = M := ⟨_, rfl⟩
    have HM := Lib.hid hM
    have hM8 : M ≤ 8 := by have := BG.out.1; rw [← hM]; exact this
    rw [hM] at XG HAl ⊢
    clear h hd hM
    go_enter Tryd.func52, Tryd.ntmps52
    go_wp2_with fail
    go_loopw [5, 15] (fun v i wr => ∃ k : Nat, k ≤ M ∧ i = .int .i64 k ∧ wr.ownsRow w.heap.size 3 1 v (bwK swL gs k).length (i64s (bwK swL gs k)) ∧ Upd NoB w wr) (fun _ i _ => M - (intOf i).toNat)
    case atStart => exact ⟨0, Nat.zero_le _, rfl, World.ownsRow_nil _ _ _ _, Upd.refl _ _⟩
    case round =>
      obtain ⟨k, hk, rfl, hown, hu⟩ := hrel
      have HOw := Lib.hid hown; have HU := Lib.hid hu
      by_cases hlt : k < M
      · obtain ⟨x, hx⟩ : ∃ x, gs[k]? = some x := ⟨_, List.getElem?_eq_getElem (by rw [HM.out]; exact hlt)⟩
        have hxb := BG.out.2 x (List.mem_of_getElem? hx)
        obtain ⟨b, off, rfl, c0⟩ := (XG.out.later hu).cellAt hx
        have HT := Lib.hid (bwK_succ (ws := swL) hx)
        have hle : (bwK swL gs k).length ≤ 4 * 8 := Nat.le_trans (bwK_len swL gs k) (by show 4 * k ≤ 4 * 8; omega)
        have HTl := Lib.hid (show (bwK swL gs (k + 1)).length = (bwK swL gs k).length + 4 by rw [HT.out, List.length_append, List.length_map]; rfl)
        generalize bwK swL gs k = ys at *
        obtain ⟨n, hn⟩ : ∃ n, ys.length = n := ⟨_, rfl⟩
        rw [hn] at HOw HTl hle hown
        obtain ⟨va, vc, rfl⟩ := row_form hown
        clear hx hn hown hu
        obtain ⟨hx0, hx8⟩ := hxb
        go_wp2_with fail
        refine (rshort_any wr).mono ?_
        rintro e w2 ⟨v2, rfl, r2, u2⟩
        obtain ⟨S, c2, rfl⟩ := row_slice r2 (by decide)
        have hS := (r2.lt S rfl).1
        have hSl := (r2.lt S rfl).2
        have hvS : ∀ k, (Value.slice va n vc).ownBlock = some k → k < wr.heap.size := fun k hk => (HOw.out.lt k hk).2
        have XW := Lib.hid (show Ints w2 (.slice (some ⟨S, 0, none⟩) 4 c2) swL from Ints.ofRow r2 (by decide)); have O2 := Lib.hid (u2.row HOw.out (fun j _ => noB j)); have U2 := Lib.hid (HU.out.then u2)
        clear r2 u2
        obtain ⟨wo, rfl⟩ : ∃ wo : World, wo = w2 := ⟨_, rfl⟩
        rw [show swL.length = 4 from rfl]
        go_wp2_with fail
        go_loopw [5, 21] (fun v i wr => ∃ t : Nat, t ≤ 4 ∧ i = .int .i64 t ∧ wr.ownsRow w.heap.size 3 1 v (n + t) (i64s (ys ++ (swL.take t).map (fun w => x * w))) ∧ Upd NoB w wr ∧ Ints wr (.slice (some ⟨S, 0, none⟩) 4 c2) swL ∧ (∀ k, v.ownBlock = some k → k ≠ S) ∧ S < wr.heap.size) (fun _ i _ => 4 - (intOf i).toNat)
        case atStart => exact ⟨0, Nat.zero_le _, rfl, by rw [List.take_zero, List.map_nil, List.append_nil]; exact O2.out, U2.out, XW.out, fun k hk e => by have := hvS k hk; omega, hSl⟩
        case round =>
          obtain ⟨t, ht, rfl, hown2, hu2, hxw, hns, hsl⟩ := hrel
          obtain ⟨va2, vc2, rfl⟩ := row_form hown2
          have HO2 := Lib.hid hown2; have HU2 := Lib.hid hu2
          have hb2 := hu2.size
          have XW2 := Lib.hid hxw; have NS := Lib.hid hns; have SL := Lib.hid hsl
          by_cases hlt2 : t < 4
          · obtain ⟨y, hy⟩ : ∃ y, swL[t]? = some y := ⟨_, List.getElem?_eq_getElem (show t < swL.length from hlt2)⟩
            obtain ⟨bb, boff, e, c1⟩ := hxw.cellAt hy
            cases e
            rw [Nat.zero_add] at c1
            have hyb := (dW_bd true).2 y (List.mem_of_getElem? hy)
            have HRt := Lib.hid (show ys ++ (swL.take (t + 1)).map (fun w => x * w) = (ys ++ (swL.take t).map (fun w => x * w)) ++ [x * y] by rw [map_take hy, List.append_assoc])
            obtain ⟨q, hq⟩ : ∃ q, x * y = q := ⟨_, rfl⟩
            have hqb : 0 ≤ q ∧ q ≤ 8 * 128 := by rw [← hq]; exact ⟨Int.mul_nonneg hx0 hyb.1, Int.mul_le_mul hx8 hyb.2 hyb.1 (by omega)⟩
            have hw1 : wrap64 (x * y) = q := by rw [hq]; exact IntWalk.wrap64_in _ (by omega)
            have hw2 : IntKind.i64.wrap (x * y) = q := by rw [hq]; exact IntWalk.i64_in _ (by omega)
            rw [hq] at HRt
            generalize ys ++ (swL.take t).map (fun w => x * w) = zs at *
            obtain ⟨nt, hnt⟩ : ∃ nt, n + t = nt := ⟨_, rfl⟩
            have HNt := Lib.hid (show n + (t + 1) = nt + 1 by omega)
            rw [hnt] at HO2 NS ⊢
            have hnt6 : nt ≤ 1000000 := by omega
            clear hnt hy hq hown2 hu2 hyb hxw hns hsl
            go_wp2_with (at_builtin; refine wpList_pushF rfl (.tmp 25) (.tmp 29) rfl w.heap.size (.slice va2 nt vc2) nt zs q rfl rfl HO2.out hnt6 hb2 ?_; intro v' w' hown' u' hat; have R' := Lib.hid hown'; have U' := Lib.hid u'; have AT := Lib.hid hat; clear hown' u' hat)
            go_roundw
            case rel =>
              refine ⟨t + 1, by omega, by go_num, by rw [HNt.out, HRt.out]; exact R'.out, upd_ge ((upd_ge' HU2.out w.heap.size).trans U'.out (fun k hk h => (HO2.out.lt k h).1)), XW2.out.upd U'.out (fun _ k hk h => ?_), fun k hk e => ?_, Nat.lt_of_lt_of_le SL.out U'.out.size⟩
              · have e : k = S := by simpa [Value.ownBlock] using hk.symm
                exact NS.out k h e
              · rcases AT.out with h | ⟨k', h, hk'⟩
                · exact NS.out k (h.symm.trans hk) e
                · rw [h] at hk
                  cases hk
                  have := SL.out
                  omega
            case measure => simp [intOf]; omega
          · obtain rfl : t = 4 := by omega
            have HU3 := Lib.hid hu2
            clear hown2 hu2
            go_wp2_with fail
            go_roundw
            case rel => exact ⟨k + 1, by omega, by go_num, by rw [HTl.out, HT.out]; exact HO2.out, HU3.out⟩
            case measure => simp [intOf]; omega
      · obtain ⟨va, vc, rfl⟩ := row_form hown
        clear hown hu
        obtain rfl : k = M := by omega
        go_wp2_with fail
        go_ret
        exact ⟨_, rfl, by rw [← HAl.out]; exact HOw.out, HU.out⟩
end Go.Proofs.YtaplmdkjoijcgaaDoor
