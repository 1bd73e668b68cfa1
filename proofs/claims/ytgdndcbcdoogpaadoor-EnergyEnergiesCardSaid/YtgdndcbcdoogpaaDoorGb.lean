/- bands: Is, Bands, Widths and Count of the reference | bands: Widths and Count of the reference | bands: spans | bands: has, Range | bands: Range | bands: Range of the reference -/
import Derived.Test.YtgdndcbcdoogpaaDoorGa
import Derived.Maps.AppendAt
import Derived.Deep.QuietTactic
import Derived.BigQuiet
namespace Go.Proofs.YtgdndcbcdoogpaaDoor
open Go.RowKit Go.Shelf

theorem isD_long {gs : List Int} {L : Nat} (h : gs.length = L) : isD false gs = decide (L = 0) := by
  subst h
  cases gs with
  | nil => rfl
  | cons x t => rfl
theorem gsum_bd {gs : List Int} {k : Nat} (h : ∀ (j : Nat) (y : Int), j < k → gs[j]? = some y → 1 ≤ y ∧ y ≤ 8) : 0 ≤ (gs.take k).sum ∧ (gs.take k).sum ≤ 8 * (k : Int) := by
  induction k with
  | zero => simp
  | succ k ih =>
    have ih := ih (fun j y hj => h j y (by omega))
    rw [List.take_add_one, List.sum_append]
    cases e : gs[k]? with
    | none => simp; omega
    | some x =>
      have := h k x (by omega) e
      simp; omega
theorem gsum_succ {gs : List Int} {k : Nat} {x : Int} (h : gs[k]? = some x) : (gs.take (k + 1)).sum = (gs.take k).sum + x := by
  rw [List.take_add_one, List.sum_append, h]; simp
theorem isG_no {gs : List Int} {k : Nat} {x : Int} (h : gs[k]? = some x) (hx : x < 1 ∨ 8 < x) : isG 8 gs = false := by
  cases e : isG 8 gs with
  | false => rfl
  | true =>
    have := (isG_bd e).2 x (List.mem_of_getElem? h)
    omega
theorem isG_far {gs : List Int} (h : 8 < gs.length) : isG 8 gs = false := by
  cases e : isG 8 gs with
  | false => rfl
  | true => have := (isG_bd e).1; omega
theorem isG_all {gs : List Int} (h : ∀ (j : Nat) (y : Int), gs[j]? = some y → 1 ≤ y ∧ y ≤ 8) : isG 8 gs = decide (gs.sum = 8) := by
  have h1 : ∀ b ∈ gs, 1 ≤ b := fun b hb => by obtain ⟨j, hj⟩ := List.getElem?_of_mem hb; exact (h j b hj).1
  cases e : isG 8 gs with
  | true => rw [decide_eq_true (isG_iff.1 e).2]
  | false =>
    rw [decide_eq_false]
    intro hs
    rw [isG_iff.2 ⟨h1, hs⟩] at e; cases e
set_option maxRecDepth 100000 in
set_option maxHeartbeats 2000000 in
theorem rIs_any (s : Bool) (v : Value) (gs : List Int) (w : World) (h : Ints w v gs) : Calls Tryd.prog 34 #[.bool s, v] w fun e w' => e = .returned (.bool (isD s gs)) ∧ w = w' := by
  obtain ⟨a, cap, rfl⟩ := h.form
  have H := Lib.hid h
  have hlb := h.1
  obtain ⟨L, hL⟩ : ∃ L, gs.length = L := ⟨_, rfl⟩
  have HL := Lib.hid hL
  rw [hL] at H hlb ⊢
  cases s with
  | false =>
    have HD := Lib.hid (isD_long hL)
    clear h hL hlb
    rw [HD.out]
    by_cases hz : L = 0
    · have t1 : decide ((L : Int) = 0) = true := decide_eq_true (by omega)
      have t1b : ((L : Int) == 0) = true := by rw [beq_iff_eq]; omega
      have t1n : decide (L = 0) = true := decide_eq_true hz
      rw [t1n]
      clear hz
      go_enter Tryd.func34, Tryd.ntmps34
      go_wp2
      go_ret
      exact ⟨rfl, rfl⟩
    · have t1 : decide ((L : Int) = 0) = false := decide_eq_false (by omega)
      have t1b : ((L : Int) == 0) = false := by rw [beq_eq_false_iff_ne]; omega
      have t1n : decide (L = 0) = false := decide_eq_false hz
      rw [t1n]
      clear hz
      go_enter Tryd.func34, Tryd.ntmps34
      go_wp2
      go_ret
      exact ⟨rfl, rfl⟩
  | true =>
    by_cases h8 : 8 < L
    · have HG := Lib.hid (show isD true gs = false from isG_far (by rw [hL]; exact h8))
      have t1 : decide ((8 : Int) < (L : Int)) = true := decide_eq_true (by omega)
      clear h hL hlb h8
      rw [HG.out]
      go_enter Tryd.func34, Tryd.ntmps34
      go_wp2
      go_ret
      exact ⟨rfl, rfl⟩
    · have t1 : decide ((8 : Int) < (L : Int)) = false := decide_eq_false (by omega)
      have hl8 : L ≤ 8 := by omega
      clear h hL hlb h8
      go_enter Tryd.func34, Tryd.ntmps34
      go_wp2
      go_loop [5, 24] (fun m i => ∃ k : Nat, k ≤ L ∧ i = .int .i64 k ∧ m = .int .i64 (gs.take k).sum ∧ (∀ (j : Nat) (y : Int), j < k → gs[j]? = some y → 1 ≤ y ∧ y ≤ 8)) (fun _ i => L - (intOf i).toNat)
      case atStart => exact ⟨0, Nat.zero_le _, rfl, rfl, fun j y hj => by omega⟩
      case round =>
        obtain ⟨k, hk, rfl, rfl, hin⟩ := hrel
        have HIn := Lib.hid hin; clear hin
        by_cases hlt : k < L
        · obtain ⟨x, hx⟩ : ∃ x, gs[k]? = some x := ⟨_, List.getElem?_eq_getElem (by rw [HL.out]; exact hlt)⟩
          obtain ⟨b, off, rfl, c0⟩ := H.out.cellAt hx
          by_cases g1 : x < 1
          · have HG := Lib.hid (show isD true gs = false from isG_no hx (.inl g1))
            have s1 : decide (x < 1) = true := decide_eq_true g1
            clear hx g1
            go_wp2
            go_ret
            exact ⟨by rw [HG.out]; rfl, rfl⟩
          have s1 : decide (x < 1) = false := decide_eq_false g1
          by_cases g2 : 8 < x
          · have HG := Lib.hid (show isD true gs = false from isG_no hx (.inr g2))
            have s2 : decide ((8 : Int) < x) = true := decide_eq_true g2
            clear hx g1 g2
            go_wp2
            go_ret
            exact ⟨by rw [HG.out]; rfl, rfl⟩
          have s2 : decide ((8 : Int) < x) = false := decide_eq_false g2
          have hb := gsum_bd HIn.out
          have HS := Lib.hid (gsum_succ hx)
          have HM := Lib.hid (show ∀ (j : Nat) (y : Int), j < k + 1 → gs[j]? = some y → 1 ≤ y ∧ y ≤ 8 from fun j y hj hy => by
            by_cases e : j = k
            · subst e; rw [hx] at hy; cases hy; omega
            · exact HIn.out j y (by omega) hy)
          generalize (gs.take k).sum = m at *
          have hx1 : 1 ≤ x := by omega
          have hx8 : x ≤ 8 := by omega
          clear hx g1 g2
          go_wp2
          go_round
          case rel => exact ⟨k + 1, by omega, by go_num, by rw [HS.out], HM.out⟩
          case measure => simp [intOf]; omega
        · obtain rfl : k = L := by omega
          have HT := Lib.hid (show (gs.take k).sum = gs.sum by rw [List.take_of_length_le (by rw [HL.out]; exact Nat.le_refl _)])
          have HG := Lib.hid (show isD true gs = decide (gs.sum = 8) from isG_all fun j y hy => HIn.out j y (by have := (List.getElem?_eq_some_iff.1 hy).1; rw [HL.out] at this; exact this) hy)
          rw [HT.out]
          generalize gs.sum = m at *
          clear hlt
          go_wp2
          go_ret
          exact ⟨by rw [HG.out]; rfl, rfl⟩
theorem wpList_pushF {w : World} {ops : Array Oper} {rest : List Oper} {o : Oper} {a : Act} {Q : Exit → Act → World → Prop} (hgd : o.guard = none) (s x : Operand)
    (ho : o.op = .call { callee := .builtin .append, args := #[s, x], argTypes := #[22, 22] }) (B : Nat) (v : Value) (n : Nat) (xs : List Int) (y : Int) (hs : a.eval s = v) (hx : a.eval x = .slice (some ⟨w.heap.size, 0, none⟩) 1 1)
    (hown : w.ownsRow B 3 1 v n (i64s xs)) (hn : n ≤ 1000000) (hB : B ≤ w.heap.size)
    (hK : ∀ v' w', w'.ownsRow B 3 1 v' (n + 1) (i64s (xs ++ [y])) → Upd (fun k => v.ownBlock = some k) w w' → (v'.ownBlock = v.ownBlock ∨ ∃ k, v'.ownBlock = some k ∧ w.heap.size ≤ k) → wpList Tryd.prog ops Q rest (a.put o.dst v') w') : wpList Tryd.prog ops Q (o :: rest) a (w.alloc (.cells #[.int .i64 y] 3)) := by
  obtain ⟨i0, hi, hz0, hz1, hz2⟩ := info_parts Tryd.infoInt
  have u : Upd NoB w (w.alloc (.cells #[.int .i64 y] 3)) := (Upd.refl _ _).alloc _
  refine wpList_append_own_at (w := w.alloc (.cells #[.int .i64 y] 3)) hgd s x 22 ho B 3 i0 (.int .i64 0) 1 8 Tryd.underlying22 hi hz0 hz1 hz2 rfl (by decide) v n (i64s xs) hs (u.row hown (fun k _ => noB k)) ⟨w.heap.size, 0, none⟩ 1 1 [.int .i64 y] hx rfl (World.news_of_block (heap_alloc_new w _)) (by intro u hu; rw [List.mem_singleton] at hu; subst hu; rfl) (by unfold maxLen; omega) (by omega) (Nat.le_trans hB u.size) ?_
  intro v' w' hown' hgr _ hat
  refine hK v' w' (by rw [i64s_append]; exact hown') ?_ ?_
  · exact ((u.mono (T := fun k => v.ownBlock = some k) (fun _ _ h => h.elim))).grown hgr (fun k hk _ => hk)
  · rcases hat with h | h
    · exact .inl h
    · exact .inr ⟨_, h, u.size⟩
set_option maxRecDepth 100000 in
theorem rlong_any (w : World) : Calls Tryd.prog 65 #[] w (IRes w lwL) := by
  go_enter Tryd.func65, Tryd.ntmps65
  go_wp2_with fail
  go_ret
  exact ⟨_, rfl, World.ownsRow_lit (base := w.heap.size) (size := 1) (e := 3) w (i64s lwL).toArray 15 (Nat.le_refl _) (by decide) rfl, (Upd.refl _ _).alloc _⟩
set_option maxRecDepth 100000 in
theorem rshort_any (w : World) : Calls Tryd.prog 66 #[] w (IRes w swL) := by
  go_enter Tryd.func66, Tryd.ntmps66
  go_wp2_with fail
  go_ret
  exact ⟨_, rfl, World.ownsRow_lit (base := w.heap.size) (size := 1) (e := 3) w (i64s swL).toArray 4 (Nat.le_refl _) (by decide) rfl, (Upd.refl _ _).alloc _⟩
set_option maxRecDepth 100000 in
set_option maxHeartbeats 4000000 in
theorem rBands_any (s : Bool) (v : Value) (gs : List Int) (w : World) (h : Ints w v gs) (hd : isD s gs = true) : Calls Tryd.prog 52 #[.bool s, v] w (IRes w (bandsL s gs)) := by
  obtain ⟨ag, cg, rfl⟩ := h.form
  cases s with
  | false =>
    have HS := Lib.hid (bandsL_long gs)
    rw [HS.out]
    clear h hd
    go_enter Tryd.func52, Tryd.ntmps52
    go_wp2_with fail
    refine (rlong_any _).mono ?_
    rintro e w2 ⟨v2, rfl, r2, u2⟩
    obtain ⟨a2, c2, rfl⟩ := row_form r2
    have R2 := Lib.hid r2; have U2 := Lib.hid u2
    clear r2 u2
    go_wp2_with fail
    go_ret
    exact ⟨_, rfl, R2.out, U2.out⟩
  | true =>
    have BG := Lib.hid (dG_bd hd)
    have XG := Lib.hid h
    have HAl := Lib.hid (show bwK swL gs gs.length = bandsL true gs by unfold bwK; rw [List.take_length]; rfl)
    obtain ⟨M, hM⟩ : ∃ M, gs.length = M := ⟨_, rfl⟩
    have HM := Lib.hid hM
    have hM8 : M ≤ 8 := by have := BG.out.1; rw [← hM]; exact this
    rw [hM] at XG HAl ⊢
    clear h hd hM
    go_enter Tryd.func52, Tryd.ntmps52
    go_wp2_with fail
    go_loopw [5, 15] (fun v i wr => ∃ k : Nat, k ≤ M ∧ i = .int .i64 k ∧ wr.ownsRow w.heap.size 3 1 v (bwK swL gs k).length (i64s (bwK swL gs k)) ∧ Upd NoB w wr) (fun _ i _ => M - (intOf i).toNat)
    case atStart => exact ⟨0, Nat.zero_le _, rfl, World.ownsRow_nil _ _ _ _, Upd.refl _ _⟩
    case round =>
      obtain ⟨k, hk, rfl, hown, hu⟩ := hrel
      have HOw := Lib.hid hown; have HU := Lib.hid hu
      by_cases hlt : k < M
      · obtain ⟨x, hx⟩ : ∃ x, gs[k]? = some x := ⟨_, List.getElem?_eq_getElem (by rw [HM.out]; exact hlt)⟩
        have hxb := BG.out.2 x (List.mem_of_getElem? hx)
        obtain ⟨b, off, rfl, c0⟩ := (XG.out.later hu).cellAt hx
        have HT := Lib.hid (bwK_succ (ws := swL) hx)
        have hle : (bwK swL gs k).length ≤ 4 * 8 := Nat.le_trans (bwK_len swL gs k) (by show 4 * k ≤ 4 * 8; omega)
        have HTl := Lib.hid (show (bwK swL gs (k + 1)).length = (bwK swL gs k).length + 4 by rw [HT.out, List.length_append, List.length_map]; rfl)
        generalize bwK swL gs k = ys at *
        obtain ⟨n, hn⟩ : ∃ n, ys.length = n := ⟨_, rfl⟩
        rw [hn] at HOw HTl hle hown
        obtain ⟨va, vc, rfl⟩ := row_form hown
        clear hx hn hown hu
        obtain ⟨hx0, hx8⟩ := hxb
        go_wp2_with fail
        refine (rshort_any wr).mono ?_
        rintro e w2 ⟨v2, rfl, r2, u2⟩
        obtain ⟨S, c2, rfl⟩ := row_slice r2 (by decide)
        have hS := (r2.lt S rfl).1
        have hSl := (r2.lt S rfl).2
        have hvS : ∀ k, (Value.slice va n vc).ownBlock = some k → k < wr.heap.size := fun k hk => (HOw.out.lt k hk).2
        have XW := Lib.hid (show Ints w2 (.slice (some ⟨S, 0, none⟩) 4 c2) swL from Ints.ofRow r2 (by decide)); have O2 := Lib.hid (u2.row HOw.out (fun j _ => noB j)); have U2 := Lib.hid (HU.out.then u2)
        clear r2 u2
        obtain ⟨wo, rfl⟩ : ∃ wo : World, wo = w2 := ⟨_, rfl⟩
        rw [show swL.length = 4 from rfl]
        go_wp2_with fail
        go_loopw [5, 21] (fun v i wr => ∃ t : Nat, t ≤ 4 ∧ i = .int .i64 t ∧ wr.ownsRow w.heap.size 3 1 v (n + t) (i64s (ys ++ (swL.take t).map (fun w => x * w))) ∧ Upd NoB w wr ∧ Ints wr (.slice (some ⟨S, 0, none⟩) 4 c2) swL ∧ (∀ k, v.ownBlock = some k → k ≠ S) ∧ S < wr.heap.size) (fun _ i _ => 4 - (intOf i).toNat)
        case atStart => exact ⟨0, Nat.zero_le _, rfl, by rw [List.take_zero, List.map_nil, List.append_nil]; exact O2.out, U2.out, XW.out, fun k hk e => by have := hvS k hk; omega, hSl⟩
        case round =>
          obtain ⟨t, ht, rfl, hown2, hu2, hxw, hns, hsl⟩ := hrel
          obtain ⟨va2, vc2, rfl⟩ := row_form hown2
          have HO2 := Lib.hid hown2; have HU2 := Lib.hid hu2
          have hb2 := hu2.size
          have XW2 := Lib.hid hxw; have NS := Lib.hid hns; have SL := Lib.hid hsl
          by_cases hlt2 : t < 4
          · obtain ⟨y, hy⟩ : ∃ y, swL[t]? = some y := ⟨_, List.getElem?_eq_getElem (show t < swL.length from hlt2)⟩
            obtain ⟨bb, boff, e, c1⟩ := hxw.cellAt hy
            cases e
            rw [Nat.zero_add] at c1
            have hyb := (dW_bd true).2 y (List.mem_of_getElem? hy)
            have HRt := Lib.hid (show ys ++ (swL.take (t + 1)).map (fun w => x * w) = (ys ++ (swL.take t).map (fun w => x * w)) ++ [x * y] by rw [map_take hy, List.append_assoc])
            obtain ⟨q, hq⟩ : ∃ q, x * y = q := ⟨_, rfl⟩
            have hqb : 0 ≤ q ∧ q ≤ 8 * 128 := by rw [← hq]; exact ⟨Int.mul_nonneg hx0 hyb.1, Int.mul_le_mul hx8 hyb.2 hyb.1 (by omega)⟩
            have hw1 : wrap64 (x * y) = q := by rw [hq]; exact IntWalk.wrap64_in _ (by omega)
            have hw2 : IntKind.i64.wrap (x * y) = q := by rw [hq]; exact IntWalk.i64_in _ (by omega)
            rw [hq] at HRt
            generalize ys ++ (swL.take t).map (fun w => x * w) = zs at *
            obtain ⟨nt, hnt⟩ : ∃ nt, n + t = nt := ⟨_, rfl⟩
            have HNt := Lib.hid (show n + (t + 1) = nt + 1 by omega)
            rw [hnt] at HO2 NS ⊢
            have hnt6 : nt ≤ 1000000 := by omega
            clear hnt hy hq hown2 hu2 hyb hxw hns hsl
            go_wp2_with (at_builtin; refine wpList_pushF rfl (.tmp 25) (.tmp 29) rfl w.heap.size (.slice va2 nt vc2) nt zs q rfl rfl HO2.out hnt6 hb2 ?_; intro v' w' hown' u' hat; have R' := Lib.hid hown'; have U' := Lib.hid u'; have AT := Lib.hid hat; clear hown' u' hat)
            go_roundw
            case rel =>
              refine ⟨t + 1, by omega, by go_num, by rw [HNt.out, HRt.out]; exact R'.out, upd_ge ((upd_ge' HU2.out w.heap.size).trans U'.out (fun k hk h => (HO2.out.lt k h).1)), XW2.out.upd U'.out (fun _ k hk h => ?_), fun k hk e => ?_, Nat.lt_of_lt_of_le SL.out U'.out.size⟩
              · have e : k = S := by simpa [Value.ownBlock] using hk.symm
                exact NS.out k h e
              · rcases AT.out with h | ⟨k', h, hk'⟩
                · exact NS.out k (h.symm.trans hk) e
                · rw [h] at hk
                  cases hk
                  have := SL.out
                  omega
            case measure => simp [intOf]; omega
          · obtain rfl : t = 4 := by omega
            have HU3 := Lib.hid hu2
            clear hown2 hu2
            go_wp2_with fail
            go_roundw
            case rel => exact ⟨k + 1, by omega, by go_num, by rw [HTl.out, HT.out]; exact HO2.out, HU3.out⟩
            case measure => simp [intOf]; omega
      · obtain ⟨va, vc, rfl⟩ := row_form hown
        clear hown hu
        obtain rfl : k = M := by omega
        go_wp2_with fail
        go_ret
        exact ⟨_, rfl, by rw [← HAl.out]; exact HOw.out, HU.out⟩
end Go.Proofs.YtgdndcbcdoogpaaDoor

namespace Go.Proofs.YtgdndcbcdoogpaaDoor
open Go.RowKit Go.Shelf

set_option maxRecDepth 100000 in
set_option maxHeartbeats 2000000 in
theorem rWidths_any (s : Bool) (v : Value) (gs : List Int) (w : World) (h : Ints w v gs) : Calls Tryd.prog 18 #[.bool s, v] w (EInts w (wdS s gs) (dE s gs)) := by
  have HI := Lib.hid (rIs_any s v gs w h)
  cases hd : isD s gs with
  | true =>
    have HS := Lib.hid (show wdS s gs = bandsL s gs from if_pos hd)
    have HE := Lib.hid (show dE s gs = 0 from if_pos hd)
    have HB := Lib.hid (rBands_any s v gs w h hd)
    obtain ⟨a, cap, rfl⟩ := h.form
    rw [hd] at HI
    rw [HS.out, HE.out]
    obtain ⟨L, hL⟩ : ∃ L, gs.length = L := ⟨_, rfl⟩
    rw [hL] at HI HB ⊢
    clear h hd hL
    go_enter Tryd.func18, Tryd.ntmps18
    go_wp2_with fail
    refine HI.out.mono ?_
    rintro e w' ⟨rfl, rfl⟩
    go_wp2_with fail
    refine HB.out.mono ?_
    rintro e w2 ⟨v2, rfl, r2, u2⟩
    obtain ⟨a2, c2, rfl⟩ := row_form r2
    have R2 := Lib.hid r2; have U2 := Lib.hid u2
    clear r2 u2
    go_wp2_with fail
    go_ret2
    exact ⟨_, _, _, rfl, R2.out, U2.out⟩
  | false =>
    have HS := Lib.hid (show wdS s gs = [] from if_neg (by rw [hd]; simp))
    have HE := Lib.hid (show dE s gs = 1 from if_neg (by rw [hd]; simp))
    obtain ⟨a, cap, rfl⟩ := h.form
    rw [hd] at HI
    rw [HS.out, HE.out]
    obtain ⟨L, hL⟩ : ∃ L, gs.length = L := ⟨_, rfl⟩
    rw [hL] at HI ⊢
    clear h hd hL
    go_enter Tryd.func18, Tryd.ntmps18
    go_wp2_with fail
    refine HI.out.mono ?_
    rintro e w' ⟨rfl, rfl⟩
    go_wp2_with fail
    go_ret2
    exact ⟨none, 0, 0, rfl, World.ownsRow_nil _ _ _ _, Upd.refl _ _⟩
set_option maxRecDepth 100000 in
set_option maxHeartbeats 2000000 in
theorem rCount_any (s : Bool) (v : Value) (gs : List Int) (w : World) (h : Ints w v gs) : Calls Tryd.prog 22 #[.bool s, v] w fun e w' => e = .returned (.tuple #[.int .i64 (ctS s gs), .int .i64 (dE s gs)]) ∧ Upd NoB w w' := by
  have HI := Lib.hid (rIs_any s v gs w h)
  cases hd : isD s gs with
  | true =>
    have HS := Lib.hid (show ctS s gs = (ctN s gs : Nat) from if_pos hd)
    have HE := Lib.hid (show dE s gs = 0 from if_pos hd)
    have HB := Lib.hid (rBands_any s v gs w h hd)
    have HC := Lib.hid (ctN_bands s gs)
    obtain ⟨a, cap, rfl⟩ := h.form
    rw [hd] at HI
    rw [HS.out, HE.out]
    obtain ⟨L, hL⟩ : ∃ L, gs.length = L := ⟨_, rfl⟩
    rw [hL] at HI HB ⊢
    clear h hd hL
    go_enter Tryd.func22, Tryd.ntmps22
    go_wp2_with fail
    refine HI.out.mono ?_
    rintro e w' ⟨rfl, rfl⟩
    go_wp2_with fail
    refine HB.out.mono ?_
    rintro e w2 ⟨v2, rfl, r2, u2⟩
    obtain ⟨a2, c2, rfl⟩ := row_form r2
    have U2 := Lib.hid u2
    clear r2 u2
    rw [HC.out]
    go_wp2_with fail
    go_ret2
    exact ⟨rfl, U2.out⟩
  | false =>
    have HS := Lib.hid (show ctS s gs = 0 from if_neg (by rw [hd]; simp))
    have HE := Lib.hid (show dE s gs = 1 from if_neg (by rw [hd]; simp))
    obtain ⟨a, cap, rfl⟩ := h.form
    rw [hd] at HI
    rw [HS.out, HE.out]
    obtain ⟨L, hL⟩ : ∃ L, gs.length = L := ⟨_, rfl⟩
    rw [hL] at HI ⊢
    clear h hd hL
    go_enter Tryd.func22, Tryd.ntmps22
    go_wp2_with fail
    refine HI.out.mono ?_
    rintro e w' ⟨rfl, rfl⟩
    go_wp2_with fail
    go_ret2
    exact ⟨rfl, Upd.refl _ _⟩
end Go.Proofs.YtgdndcbcdoogpaaDoor

namespace Go.Proofs.YtgdndcbcdoogpaaDoor
open Go.RowKit Go.Shelf

theorem Tryd.infoSpan : (Tryd.prog.info? 66).map (fun i => (i.zero, i.size, i.bytes)) = some (some (.agg #[.int .i64 0, .int .i64 0]), 2, 16) := by kernel_rfl
/-- the cells of the first k spans -/
def spC (ws : List Int) (k : Nat) : List Value := (List.range k).flatMap fun j => [Value.int .i64 (spT ws j), .int .i64 (spT ws (j + 1))]
theorem spC_succ (ws : List Int) (k : Nat) : spC ws (k + 1) = spC ws k ++ [Value.int .i64 (spT ws k), .int .i64 (spT ws (k + 1))] := by
  unfold spC; rw [List.range_succ, List.flatMap_append]; simp
theorem spT_bd {ws : List Int} (h : ∀ x ∈ ws, 0 ≤ x ∧ x ≤ 200) : ∀ k : Nat, 0 ≤ spT ws k ∧ spT ws k ≤ 200 * (k : Int)
  | 0 => by simp [spT]
  | k + 1 => by
    have ih := spT_bd h k
    cases e : ws[k]? with
    | none =>
      have : spT ws (k + 1) = spT ws k := by unfold spT; rw [List.take_add_one, e]; simp
      rw [this]; omega
    | some x =>
      have := h x (List.mem_of_getElem? e)
      rw [spT_succ e]; omega
theorem wpList_pushS {w : World} {ops : Array Oper} {rest : List Oper} {o : Oper} {a : Act} {Q : Exit → Act → World → Prop} (hgd : o.guard = none) (s x : Operand)
    (ho : o.op = .call { callee := .builtin .append, args := #[s, x], argTypes := #[64, 64] }) (B : Nat) (v : Value) (n : Nat) (cs : List Value) (y z : Int) (hs : a.eval s = v) (hx : a.eval x = .slice (some ⟨w.heap.size, 0, none⟩) 1 1)
    (hown : w.ownsRow B 66 2 v n cs) (hn : n ≤ 1000000) (hB : B ≤ w.heap.size)
    (hK : ∀ v' w', w'.ownsRow B 66 2 v' (n + 1) (cs ++ [Value.int .i64 y, .int .i64 z]) → Upd (fun k => B ≤ k) w w' → wpList Tryd.prog ops Q rest (a.put o.dst v') w') : wpList Tryd.prog ops Q (o :: rest) a (w.alloc (.cells #[.int .i64 y, .int .i64 z] 66)) := by
  obtain ⟨i0, hi, hz0, hz1, hz2⟩ := info_parts Tryd.infoSpan
  have u : Upd NoB w (w.alloc (.cells #[.int .i64 y, .int .i64 z] 66)) := (Upd.refl _ _).alloc _
  refine wpList_append_own (w := w.alloc (.cells #[.int .i64 y, .int .i64 z] 66)) hgd s x 64 ho B 66 i0 (.agg #[.int .i64 0, .int .i64 0]) 2 16 Tryd.underlying64 hi hz0 hz1 hz2 rfl (by decide) v n cs hs (u.row hown (fun k _ => noB k)) ⟨w.heap.size, 0, none⟩ 1 1 [.int .i64 y, .int .i64 z] hx rfl (World.news_of_block (heap_alloc_new w _)) (by
    intro u hu
    rcases List.mem_cons.1 hu with rfl | hu
    · rfl
    · rw [List.mem_singleton] at hu; subst hu; rfl) (by unfold maxLen; omega) (by omega) (Nat.le_trans hB u.size) ?_
  intro v' w' hown' hgr _
  exact hK v' w' hown' (((u.mono (T := fun k => B ≤ k) (fun _ _ h => h.elim))).grown hgr (fun k hk _ => (hown.lt k hk).1))
set_option maxRecDepth 100000 in
set_option maxHeartbeats 2000000 in
theorem spans_any (v : Value) (ws : List Int) (w : World) (h : Ints w v ws) (hl : ws.length ≤ 1000) (hb : ∀ x ∈ ws, 0 ≤ x ∧ x ≤ 200) :
    Calls Tryd.prog 60 #[v] w fun e w' => ∃ v', e = .returned v' ∧ w'.ownsRow w.heap.size 66 2 v' ws.length (spC ws ws.length) ∧ Upd NoB w w' := by
  obtain ⟨a, cap, rfl⟩ := h.form
  have H := Lib.hid h
  have BD := Lib.hid (fun k => spT_bd hb k); have HB := Lib.hid hb
  obtain ⟨L, hL⟩ : ∃ L, ws.length = L := ⟨_, rfl⟩
  have HL := Lib.hid hL
  rw [hL] at H hl ⊢
  clear h hL hb
  go_enter Tryd.func60, Tryd.ntmps60
  go_wp2_with fail
  go_loopw [3, 4, 9] (fun v f i wr => ∃ k : Nat, k ≤ L ∧ i = .int .i64 k ∧ f = .int .i64 (spT ws k) ∧ wr.ownsRow w.heap.size 66 2 v k (spC ws k) ∧ Upd NoB w wr) (fun _ _ i _ => L - (intOf i).toNat)
  case atStart => exact ⟨0, Nat.zero_le _, rfl, rfl, World.ownsRow_nil _ _ _ _, Upd.refl _ _⟩
  case round =>
    obtain ⟨k, hk, rfl, rfl, hown, hu⟩ := hrel
    obtain ⟨va, vc, rfl⟩ := row_form hown
    have HOw := Lib.hid hown; have HU := Lib.hid hu
    have hbs := hu.size
    by_cases hlt : k < L
    · obtain ⟨x, hx⟩ : ∃ x, ws[k]? = some x := ⟨_, List.getElem?_eq_getElem (by rw [HL.out]; exact hlt)⟩
      obtain ⟨b, off, rfl, c0⟩ := (H.out.later hu).cellAt hx
      obtain ⟨x0, x8⟩ := HB.out x (List.mem_of_getElem? hx)
      obtain ⟨f0, f8⟩ := BD.out k
      have HS := Lib.hid (spT_succ hx)
      have HC := Lib.hid (spC_succ ws k)
      rw [HS.out] at HC
      generalize spT ws k = f at *
      generalize spC ws k = cs at *
      clear hx hown hu
      go_wp2_with (at_builtin; refine wpList_pushS rfl (.tmp 13) (.tmp 19) rfl w.heap.size (.slice va k vc) k cs f (f + x) rfl rfl HOw.out (by omega) hbs ?_; intro v' w' hown' u'; have R' := Lib.hid hown'; have U' := Lib.hid u'; clear hown' u')
      go_roundw
      case rel => exact ⟨k + 1, by omega, by go_num, by rw [HS.out], by rw [HC.out]; exact R'.out, upd_ge ((upd_ge' HU.out w.heap.size).trans U'.out (fun _ _ h => h))⟩
      case measure => simp [intOf]; omega
    · obtain rfl : k = L := by omega
      clear hown hu
      go_wp2_with fail
      go_ret
      exact ⟨_, rfl, HOw.out, HU.out⟩
end Go.Proofs.YtgdndcbcdoogpaaDoor

namespace Go.Proofs.YtgdndcbcdoogpaaDoor
open Go.RowKit Go.Shelf

theorem spC_length (ws : List Int) : ∀ k : Nat, (spC ws k).length = 2 * k
  | 0 => by simp [spC]
  | k + 1 => by rw [spC_succ, List.length_append, spC_length ws k]; simp; omega
theorem spC_get {ws : List Int} {j : Nat} : ∀ {k : Nat}, j < k → (spC ws k)[2 * j]? = some (Value.int .i64 (spT ws j)) ∧ (spC ws k)[2 * j + 1]? = some (Value.int .i64 (spT ws (j + 1)))
  | 0, h => by omega
  | k + 1, h => by
    rw [spC_succ]
    have hl := spC_length ws k
    by_cases e : j = k
    · subst e
      refine ⟨?_, ?_⟩
      · rw [List.getElem?_append_right (by omega), hl, Nat.sub_self]; rfl
      · rw [List.getElem?_append_right (by omega), hl, show 2 * j + 1 - 2 * j = 1 by omega]; rfl
    · have ih := spC_get (ws := ws) (show j < k by omega)
      exact ⟨by rw [List.getElem?_append_left (by omega)]; exact ih.1, by rw [List.getElem?_append_left (by omega)]; exact ih.2⟩
theorem dW_bd2 (s : Bool) : ∀ x ∈ dW s, 0 ≤ x ∧ x ≤ 25 := by
  cases s
  · decide
  · decide
theorem bands_bd {s : Bool} {gs : List Int} (h : isD s gs = true) : ∀ x ∈ bandsL s gs, 0 ≤ x ∧ x ≤ 200 := by
  intro x hx
  unfold bandsL bwL at hx
  rw [List.mem_flatMap] at hx
  obtain ⟨g, hg, hx⟩ := hx
  rw [List.mem_map] at hx
  obtain ⟨y, hy, rfl⟩ := hx
  obtain ⟨g0, g8⟩ := (dG_bd h).2 g hg
  obtain ⟨y0, y25⟩ := dW_bd2 s y hy
  exact ⟨Int.mul_nonneg g0 y0, Int.mul_le_mul g8 y25 y0 (by omega)⟩
theorem ctN_le {s : Bool} {gs : List Int} (h : isD s gs = true) : ctN s gs ≤ 120 := by
  have h1 := (dG_bd h).1
  have h2 := (dW_bd s).1
  exact Nat.mul_le_mul h1 h2
set_option maxRecDepth 100000 in
set_option maxHeartbeats 1000000 in
theorem has_any (v1 : Value) (aw ag : Option Addr) (n m cw cg : Nat) (b : Int) (w : World) (hn : n ≤ 1000) (hm : m ≤ 1000) :
    Calls Tryd.prog 62 #[.agg #[v1, .slice aw n cw, .slice ag m cg], .int .i64 b] w fun e w' => e = .returned (.bool (decide (0 ≤ b ∧ b < (m : Int) * (n : Int)))) ∧ Upd NoB w w' := by
  by_cases h0 : 0 ≤ b
  · have t1 : decide ((0 : Int) ≤ b) = true := decide_eq_true h0
    have HD := Lib.hid (show decide (0 ≤ b ∧ b < (m : Int) * (n : Int)) = decide (b < (m : Int) * (n : Int)) by simp [h0])
    rw [HD.out]
    have HC := Lib.hid (fun w' => count_any v1 aw ag n m cw cg w' hn hm)
    generalize (m : Int) * (n : Int) = q at *
    clear h0
    go_enter Tryd.func62, Tryd.ntmps62
    go_wp2_with fail
    refine (HC.out _).mono ?_
    rintro e w2 ⟨rfl, u2⟩
    have U2 := Lib.hid (((Upd.refl NoB w).alloc _).then u2)
    clear u2
    go_wp2_with fail
    go_ret
    exact ⟨rfl, U2.out⟩
  · have t1 : decide ((0 : Int) ≤ b) = false := decide_eq_false h0
    have HD := Lib.hid (show decide (0 ≤ b ∧ b < (m : Int) * (n : Int)) = false from decide_eq_false (fun h => h0 h.1))
    rw [HD.out]
    clear h0
    go_enter Tryd.func62, Tryd.ntmps62
    go_wp2_with fail
    go_ret
    exact ⟨rfl, (Upd.refl _ _).alloc _⟩
end Go.Proofs.YtgdndcbcdoogpaaDoor

namespace Go.Proofs.YtgdndcbcdoogpaaDoor
open Go.RowKit Go.Shelf

def rgE (s : Bool) (gs : List Int) (b : Int) : Int := if isD s gs then (if 0 ≤ b ∧ b < (ctN s gs : Nat) then 0 else 6) else 1
def rgF (s : Bool) (gs : List Int) (b : Int) : Int := if rgE s gs b = 0 then spT (bandsL s gs) b.toNat else 0
def rgT (s : Bool) (gs : List Int) (b : Int) : Int := if rgE s gs b = 0 then spT (bandsL s gs) (b.toNat + 1) else 0
theorem rg_bad {s : Bool} {gs : List Int} {b E : Int} (h : rgE s gs b = E) (hE : E ≠ 0) : rgF s gs b = 0 ∧ rgT s gs b = 0 := by
  unfold rgF rgT
  rw [if_neg (by rw [h]; exact hE), if_neg (by rw [h]; exact hE)]
  exact ⟨rfl, rfl⟩
set_option maxRecDepth 100000 in
set_option maxHeartbeats 4000000 in
theorem Range_any (b : Int) (s : Bool) (v : Value) (gs : List Int) (w : World) (h : Ints w v gs) (hg : Gv w) :
    Calls Tryd.prog 30 #[.int .i64 b, .bool s, v] w fun e w' => e = .returned (.tuple #[.int .i64 (rgF s gs b), .int .i64 (rgT s gs b), .int .i64 (rgE s gs b)]) ∧ Upd NoB w w' := by
  have HD := Lib.hid (divisionOf_any s v gs w h hg)
  obtain ⟨a, cap, rfl⟩ := h.form
  cases hd : isD s gs with
  | true =>
    have HBg := Lib.hid (dG_bd hd)
    have HDd := Lib.hid hd
    have HE0 := Lib.hid (show rgE s gs b = if 0 ≤ b ∧ b < (ctN s gs : Nat) then 0 else 6 from if_pos hd)
    have HBb := Lib.hid (bands_bd hd); have HBl := Lib.hid (ctN_bands s gs); have hct := ctN_le hd
    have HBW := Lib.hid (show bwL (dW s) (dG s gs) = bandsL s gs from rfl)
    have HCt := Lib.hid (show ((dG s gs).length : Int) * ((dW s).length : Int) = ((ctN s gs : Nat) : Int) by unfold ctN; rw [Int.natCast_mul])
    obtain ⟨L, hL⟩ : ∃ L, gs.length = L := ⟨_, rfl⟩
    rw [hL] at HD ⊢
    clear h hg hd hL
    by_cases hb : 0 ≤ b ∧ b < (ctN s gs : Nat)
    · have HE := Lib.hid (show rgE s gs b = 0 by rw [HE0.out, if_pos hb])
      have HF := Lib.hid (show rgF s gs b = spT (bandsL s gs) b.toNat from if_pos HE.out)
      have HT := Lib.hid (show rgT s gs b = spT (bandsL s gs) (b.toNat + 1) from if_pos HE.out)
      rw [HE.out, HF.out, HT.out]
      obtain ⟨k, rfl⟩ := Int.eq_ofNat_of_zero_le hb.1
      have hk : k < ctN s gs := by omega
      rw [Int.toNat_natCast]
      obtain ⟨f, hf⟩ : ∃ f, spT (bandsL s gs) k = f := ⟨_, rfl⟩
      obtain ⟨t, ht⟩ : ∃ t, spT (bandsL s gs) (k + 1) = t := ⟨_, rfl⟩
      have HFf := Lib.hid hf; have HTt := Lib.hid ht
      rw [hf, ht]
      clear hf ht
      have HDec := Lib.hid (show decide (0 ≤ (k : Int) ∧ (k : Int) < ((ctN s gs : Nat) : Int)) = true from decide_eq_true hb)
      generalize ctN s gs = C at *
      clear hb
      go_enter Tryd.func30, Tryd.ntmps30
      go_wp2_with fail
      refine HD.out.mono ?_
      intro e w1 hr
      unfold DRes at hr
      rw [if_pos HDd.out] at hr
      obtain ⟨vw, vg, rfl, iw, ig, u1⟩ := hr
      obtain ⟨aw, cw, rfl⟩ := iw.form
      obtain ⟨ag, cg, rfl⟩ := ig.form
      have IW := Lib.hid iw; have IG := Lib.hid ig; have U1 := Lib.hid u1
      clear iw ig u1
      go_wp2_with fail
      refine (has_any _ _ _ (dW s).length (dG s gs).length _ _ _ _ (by have := (dW_bd s).1; omega) (by have := HBg.out.1; omega)).mono ?_
      rw [HCt.out, HDec.out]
      rintro e w2 ⟨rfl, u2⟩
      have hb2 := u2.heap (heap_alloc_new w1 _) (noB _)
      have e0 := blk_cell hb2 0
      have e1 := blk_cell hb2 1
      have e2 := blk_cell hb2 2
      have U12 := Lib.hid (((Upd.refl NoB w1).alloc _).then u2)
      clear u2 hb2
      go_wp2_with fail
      refine (bandWidths_any (dLn s) _ _ (dW s) (dG s gs) w2 (IW.out.later U12.out) (IG.out.later U12.out) (dW_bd s) HBg.out).mono ?_
      rw [HBW.out]
      rintro e w3 ⟨v3, rfl, r3, u3⟩
      obtain ⟨a3, c3, rfl⟩ := row_form r3
      have I3 := Lib.hid (Ints.ofRow r3 (by rw [HBl.out]; omega)); have U13 := Lib.hid (U12.out.then u3)
      clear r3 u3 e0 e1 e2
      go_wp2_with fail
      refine (spans_any _ (bandsL s gs) w3 I3.out (by rw [HBl.out]; omega) HBb.out).mono ?_
      rintro e w4 ⟨v4, rfl, r4, u4⟩
      rw [HBl.out] at r4
      obtain ⟨g4, c4, rfl⟩ := row_slice r4 (by omega)
      have U14 := Lib.hid (U13.out.then u4)
      have hlen := spC_length (bandsL s gs) C
      obtain ⟨s1, s2⟩ := spC_get (ws := bandsL s gs) hk
      have d0 := r4.cellAt (2 * k) (by omega)
      have d1 := r4.cellAt (2 * k + 1) (by omega)
      rw [s1] at d0
      rw [s2] at d1
      rw [Nat.mul_comm] at d0 d1
      rw [HFf.out] at d0
      rw [HTt.out] at d1
      clear u4 hlen s1 s2
      go_wp2_with fail
      go_quiet (fail)
      go_wp2_with fail
      go_ret3
      exact ⟨rfl, upd_drewN ((U1.out.then U14.out).alloc _) _⟩
    · have hE : rgE s gs b = 6 := by rw [HE0.out, if_neg hb]
      obtain ⟨e1, e2⟩ := rg_bad hE (by decide)
      have HE := Lib.hid hE; have HF := Lib.hid e1; have HT := Lib.hid e2
      rw [HE.out, HF.out, HT.out]
      have HDec := Lib.hid (show decide (0 ≤ b ∧ b < ((ctN s gs : Nat) : Int)) = false from decide_eq_false hb)
      generalize ctN s gs = C at *
      clear hb hE e1 e2
      go_enter Tryd.func30, Tryd.ntmps30
      go_wp2_with fail
      refine HD.out.mono ?_
      intro e w1 hr
      unfold DRes at hr
      rw [if_pos HDd.out] at hr
      obtain ⟨vw, vg, rfl, iw, ig, u1⟩ := hr
      obtain ⟨aw, cw, rfl⟩ := iw.form
      obtain ⟨ag, cg, rfl⟩ := ig.form
      have U1 := Lib.hid u1
      clear iw ig u1
      go_wp2_with fail
      refine (has_any _ _ _ (dW s).length (dG s gs).length _ _ _ _ (by have := (dW_bd s).1; omega) (by have := HBg.out.1; omega)).mono ?_
      rw [HCt.out, HDec.out]
      rintro e w2 ⟨rfl, u2⟩
      have U12 := Lib.hid (((Upd.refl NoB w1).alloc _).then u2)
      clear u2
      go_wp2_with fail
      go_ret3
      exact ⟨rfl, U1.out.then U12.out⟩
  | false =>
    have hE : rgE s gs b = 1 := if_neg (by rw [hd]; simp)
    obtain ⟨e1, e2⟩ := rg_bad hE (by decide)
    have HE := Lib.hid hE; have HF := Lib.hid e1; have HT := Lib.hid e2
    rw [HE.out, HF.out, HT.out]
    have HDd := Lib.hid (show ¬ isD s gs = true by rw [hd]; simp)
    obtain ⟨L, hL⟩ : ∃ L, gs.length = L := ⟨_, rfl⟩
    rw [hL] at HD ⊢
    clear h hg hd hL hE e1 e2
    go_enter Tryd.func30, Tryd.ntmps30
    go_wp2_with fail
    refine HD.out.mono ?_
    intro e w1 hr
    unfold DRes at hr
    rw [if_neg HDd.out] at hr
    obtain ⟨rfl, u1⟩ := hr
    have U1 := Lib.hid u1
    clear u1
    go_wp2_with fail
    go_ret3
    exact ⟨rfl, U1.out.alloc _⟩
end Go.Proofs.YtgdndcbcdoogpaaDoor

namespace Go.Proofs.YtgdndcbcdoogpaaDoor
open Go.RowKit Go.Shelf

set_option maxRecDepth 100000 in
set_option maxHeartbeats 4000000 in
theorem rRange_any (b : Int) (s : Bool) (v : Value) (gs : List Int) (w : World) (h : Ints w v gs) :
    Calls Tryd.prog 31 #[.int .i64 b, .bool s, v] w fun e w' => e = .returned (.tuple #[.int .i64 (rgF s gs b), .int .i64 (rgT s gs b), .int .i64 (rgE s gs b)]) ∧ Upd NoB w w' := by
  have HI := Lib.hid (rIs_any s v gs w h)
  cases hd : isD s gs with
  | true =>
    have HB := Lib.hid (rBands_any s v gs w h hd)
    have HE0 := Lib.hid (show rgE s gs b = if 0 ≤ b ∧ b < (ctN s gs : Nat) then 0 else 6 from if_pos hd)
    have HBb := Lib.hid (bands_bd hd); have HBl := Lib.hid (ctN_bands s gs); have hct := ctN_le hd
    have BD := Lib.hid (fun k => spT_bd HBb.out k)
    obtain ⟨a, cap, rfl⟩ := h.form
    rw [hd] at HI
    obtain ⟨L, hL⟩ : ∃ L, gs.length = L := ⟨_, rfl⟩
    rw [hL] at HI HB ⊢
    clear h hd hL
    by_cases hb : 0 ≤ b ∧ b < (ctN s gs : Nat)
    · have HE := Lib.hid (show rgE s gs b = 0 by rw [HE0.out, if_pos hb])
      have HF := Lib.hid (show rgF s gs b = spT (bandsL s gs) b.toNat from if_pos HE.out)
      have HT := Lib.hid (show rgT s gs b = spT (bandsL s gs) (b.toNat + 1) from if_pos HE.out)
      rw [HE.out, HF.out, HT.out]
      obtain ⟨k, rfl⟩ := Int.eq_ofNat_of_zero_le hb.1
      have hk : k < ctN s gs := by omega
      rw [Int.toNat_natCast]
      have z0 : decide ((k : Int) < 0) = false := decide_eq_false (by omega)
      have z1 : decide (((ctN s gs : Nat) : Int) ≤ (k : Int)) = false := decide_eq_false (by omega)
      have z1n : decide (ctN s gs ≤ k) = false := decide_eq_false (by omega)
      generalize ctN s gs = C at *
      clear hb
      go_enter Tryd.func31, Tryd.ntmps31
      go_wp2_with fail
      refine HI.out.mono ?_
      rintro e w' ⟨rfl, rfl⟩
      go_wp2_with fail
      refine HB.out.mono ?_
      rintro e w2 ⟨v2, rfl, r2, u2⟩
      obtain ⟨g2, c2, rfl⟩ := row_slice r2 (by rw [HBl.out]; omega)
      have hc2 := row_cap r2
      have I2 := Lib.hid (Ints.ofRow r2 (by rw [HBl.out]; omega)); have U2 := Lib.hid u2
      rw [HBl.out] at I2 hc2 ⊢
      have hkc : k ≤ c2 := by omega
      clear r2 u2
      go_wp2_with fail
      go_loop [6, 31] (fun f i => ∃ j : Nat, j ≤ k ∧ i = .int .i64 j ∧ f = .int .i64 (spT (bandsL s gs) j)) (fun _ i => k - (intOf i).toNat)
      case atStart => exact ⟨0, Nat.zero_le _, rfl, rfl⟩
      case round =>
        obtain ⟨j, hj, rfl, rfl⟩ := hrel
        obtain ⟨f0, f8⟩ := BD.out j
        obtain ⟨x, hx⟩ : ∃ x, (bandsL s gs)[j]? = some x := ⟨_, List.getElem?_eq_getElem (by rw [HBl.out]; omega)⟩
        obtain ⟨bb, off, e, c0⟩ := I2.out.cellAt hx
        cases e
        rw [Nat.zero_add] at c0
        obtain ⟨x0, x8⟩ := HBb.out x (List.mem_of_getElem? hx)
        have HS := Lib.hid (spT_succ hx)
        by_cases hlt : j < k
        · generalize spT (bandsL s gs) j = f at *
          clear hx
          go_wp2_with fail
          go_round
          case rel => exact ⟨j + 1, by omega, by go_num, by rw [HS.out]⟩
          case measure => simp [intOf]; omega
        · obtain rfl : j = k := by omega
          have HFin := Lib.hid (show spT (bandsL s gs) (j + 1) = spT (bandsL s gs) j + x from HS.out)
          have y1 : IntKind.i64.wrap (spT (bandsL s gs) j + x) = spT (bandsL s gs) j + x := IntWalk.i64_in _ (by omega)
          have y2 : (j : Int) < (C : Int) := by omega
          clear hx hlt
          go_wp2_with fail
          go_quiet (fail)
          go_wp2_with fail
          go_ret3
          exact ⟨by rw [HFin.out]; rfl, upd_drewN U2.out _⟩
    · have hE : rgE s gs b = 6 := by rw [HE0.out, if_neg hb]
      obtain ⟨e1, e2⟩ := rg_bad hE (by decide)
      have HE := Lib.hid hE; have HF := Lib.hid e1; have HT := Lib.hid e2
      rw [HE.out, HF.out, HT.out]
      by_cases hb0 : b < 0
      · have z0 : decide (b < 0) = true := decide_eq_true hb0
        clear hb hb0 hE e1 e2
        go_enter Tryd.func31, Tryd.ntmps31
        go_wp2_with fail
        refine HI.out.mono ?_
        rintro e w' ⟨rfl, rfl⟩
        go_wp2_with fail
        refine HB.out.mono ?_
        rintro e w2 ⟨v2, rfl, r2, u2⟩
        obtain ⟨a2, c2, rfl⟩ := row_form r2
        have U2 := Lib.hid u2
        clear r2 u2
        go_wp2_with fail
        go_ret3
        exact ⟨rfl, U2.out⟩
      · have z0 : decide (b < 0) = false := decide_eq_false hb0
        have z1 : decide (((ctN s gs : Nat) : Int) ≤ b) = true := decide_eq_true (by omega)
        clear hb hb0 hE e1 e2
        go_enter Tryd.func31, Tryd.ntmps31
        go_wp2_with fail
        refine HI.out.mono ?_
        rintro e w' ⟨rfl, rfl⟩
        go_wp2_with fail
        refine HB.out.mono ?_
        rintro e w2 ⟨v2, rfl, r2, u2⟩
        obtain ⟨a2, c2, rfl⟩ := row_form r2
        have U2 := Lib.hid u2
        clear r2 u2
        rw [HBl.out]
        go_wp2_with fail
        go_ret3
        exact ⟨rfl, U2.out⟩
  | false =>
    have hE : rgE s gs b = 1 := if_neg (by rw [hd]; simp)
    obtain ⟨e1, e2⟩ := rg_bad hE (by decide)
    have HE := Lib.hid hE; have HF := Lib.hid e1; have HT := Lib.hid e2
    rw [HE.out, HF.out, HT.out]
    obtain ⟨a, cap, rfl⟩ := h.form
    rw [hd] at HI
    obtain ⟨L, hL⟩ : ∃ L, gs.length = L := ⟨_, rfl⟩
    rw [hL] at HI ⊢
    clear h hd hL hE e1 e2
    go_enter Tryd.func31, Tryd.ntmps31
    go_wp2_with fail
    refine HI.out.mono ?_
    rintro e w' ⟨rfl, rfl⟩
    go_wp2_with fail
    go_ret3
    exact ⟨rfl, Upd.refl _ _⟩
end Go.Proofs.YtgdndcbcdoogpaaDoor
