/- block: Groups of the reference -/
import Derived.Test.YtmkbpocibpjjaaaLJ
import Derived.BigRegion
namespace Go.Proofs.Ytmkbpocibpjjaaa
open Go.RowKit Go.Shelf

set_option maxRecDepth 100000 in
set_option maxHeartbeats 4000000 in
theorem rGroups_any (v : Value) (es : List Int) (w : World) (h : Ints w v es) : Calls Try.prog 35 #[v] w (EInts w (gpS es) (gE es)) := by
  obtain ⟨a, cap, rfl⟩ := h.form
  have H := Lib.hid h
  have hlb := h.1
  obtain ⟨L, hL⟩ : ∃ L, es.length = L := ⟨_, rfl⟩
  have HL := Lib.hid hL
  rw [hL] at H hlb ⊢
  clear h hL
  by_cases h1 : L = 8
  · have hgE : gE es = if allIn 0 1125899906842624 es then 0 else 1 := if_neg (by rw [HL.out, h1]; simp)
    have t0 : ((L : Int) != 8) = false := by rw [h1]; rfl
    have HL8 := Lib.hid h1
    have HgE := Lib.hid hgE
    have hL9 : L ≤ 8 := by omega
    clear hgE h1 hlb
    go_enter Try.func35, Try.ntmps35
    go_wp2_with fail
    go_loop [14] (fun i => ∃ k : Nat, k ≤ L ∧ i = .int .i64 k ∧ Hid (∀ (j : Nat) (x : Int), j < k → es[j]? = some x → 0 ≤ x ∧ x ≤ 1125899906842624)) (fun i => L - (intOf i).toNat)
    case atStart => exact ⟨0, Nat.zero_le _, rfl, Lib.hid (fun j x hj => by omega)⟩
    case round =>
      obtain ⟨k, hk, rfl, HN⟩ := hrel
      by_cases hlt : k < L
      · obtain ⟨x, hx⟩ : ∃ x, es[k]? = some x := ⟨_, List.getElem?_eq_getElem (by rw [HL.out]; exact hlt)⟩
        obtain ⟨b, off, rfl, hc⟩ := H.out.cellAt hx
        have bad : ∀ (hx' : ¬ (0 ≤ x ∧ x ≤ 1125899906842624)), gE es = 1 ∧ gpS es = [] := fun hx' => by
          have h1 : gE es = 1 := by rw [HgE.out, allIn_not hx hx']; rfl
          exact ⟨h1, if_neg (by rw [h1]; decide)⟩
        by_cases g1 : x < 0
        · obtain ⟨e1, e2⟩ := bad (by omega)
          have E1 := Lib.hid e1; have E2 := Lib.hid e2
          have s1 : decide (x < 0) = true := decide_eq_true g1
          clear hx g1 bad e1 e2
          go_wp2
          go_ret2
          exact ⟨none, 0, 0, by rw [E1.out]; rfl, by rw [E2.out]; exact World.ownsRow_nil _ _ _ _, Upd.refl _ _⟩
        have s1 : decide (x < 0) = false := decide_eq_false g1
        by_cases g2 : 1125899906842624 < x
        · obtain ⟨e1, e2⟩ := bad (by omega)
          have E1 := Lib.hid e1; have E2 := Lib.hid e2
          have s2 : decide ((1125899906842624 : Int) < x) = true := decide_eq_true g2
          clear hx g1 g2 bad e1 e2
          go_wp2
          go_ret2
          exact ⟨none, 0, 0, by rw [E1.out]; rfl, by rw [E2.out]; exact World.ownsRow_nil _ _ _ _, Upd.refl _ _⟩
        have s2 : decide ((1125899906842624 : Int) < x) = false := decide_eq_false g2
        have HM := Lib.hid (show ∀ (j : Nat) (y : Int), j < k + 1 → es[j]? = some y → 0 ≤ y ∧ y ≤ 1125899906842624 from fun j y hj hy => by
          by_cases e : j = k
          · subst e; rw [hx] at hy; cases hy; omega
          · exact HN.out j y (by omega) hy)
        clear hx g1 g2 bad
        go_wp2
        go_round
        case rel => exact ⟨k + 1, by omega, by go_num, HM⟩
        case measure => simp [intOf]; omega
      · obtain rfl : k = L := by omega
        have hall : allIn 0 1125899906842624 es = true := allIn_of fun j x hx => HN.out j x (by have := (List.getElem?_eq_some_iff.1 hx).1; rw [HL.out] at this; exact this) hx
        have hE0 : gE es = 0 := by rw [HgE.out, hall]; rfl
        have HE := Lib.hid hE0
        have HS := Lib.hid (show gpS es = gpL es 7 from if_pos hE0)
        have HAll := Lib.hid hall
        clear hall hE0
        go_wp2_with fail
        go_loopw [6, 7, 8, 27] (fun v _ _ i wr => ∃ j : Nat, j ≤ 8 ∧ i = .int .i64 j ∧ ((j = 0 ∧ v = .slice none 0 0) ∨ ∃ q, j = q + 1 ∧ wr.ownsRow w.heap.size 3 1 v ((gpT es q).1.length + 1) (i64s (gpL es q))) ∧ Upd NoB w wr) (fun _ _ _ i _ => 8 - (intOf i).toNat)
        case atStart => exact ⟨0, Nat.zero_le _, rfl, .inl ⟨rfl, rfl⟩, Upd.refl _ _⟩
        case round =>
          obtain ⟨j, hj, rfl, hor, hu⟩ := hrel
          by_cases hlt : j < 8
          · obtain ⟨y, hy⟩ : ∃ y, es[j]? = some y := ⟨_, List.getElem?_eq_getElem (by rw [HL.out, HL8.out]; omega)⟩
            obtain ⟨b, off, rfl, c1⟩ := (H.out.later hu).cellAt hy
            have hyb := allIn_yes HAll.out hy
            have qj : (j : Int) < (k : Int) := by have := HL8.out; omega
            rcases hor with ⟨rfl, rfl⟩ | ⟨q, rfl, hown⟩
            · have HU := Lib.hid hu
              rw [Nat.add_zero] at c1
              have q3 : decide (0 < k) = true := decide_eq_true (by omega)
              have q4 : (0 : Int) < (k : Int) := by omega
              have hG0 := Lib.hid (show i64s (gpL es 0) = i64s ([] ++ [1]) from rfl)
              clear hy hu
              go_wp2_with fail
              go_quiet (fail)
              have hu2 : Upd NoB w (wr.drewN nq) := upd_drewN HU.out nq
              clear c1 HU
              generalize wr.drewN nq = W2 at *
              have HU2 := Lib.hid hu2
              clear hu2
              go_wp2_with (at_builtin; refine wpList_push rfl (.tmp 61) (.tmp 62) rfl w.heap.size (.slice none 0 0) 0 [] 1 rfl rfl (World.ownsRow_nil _ _ _ _) (by omega) HU2.out.size ?_; intro v' w' hown' u'; have R' := Lib.hid hown'; have U' := Lib.hid u'; clear hown' u')
              go_roundw
              case rel => exact ⟨1, by omega, by go_num, .inr ⟨0, rfl, by rw [hG0.out]; exact R'.out⟩, upd_ge ((upd_ge' HU2.out w.heap.size).trans U'.out (fun _ _ h => h))⟩
              case measure => simp [intOf]
            · obtain ⟨x, hx⟩ : ∃ x, es[q]? = some x := ⟨_, List.getElem?_eq_getElem (by rw [HL.out, HL8.out]; omega)⟩
              obtain ⟨b', off', e, c0⟩ := (H.out.later hu).cellAt hx
              cases e
              have hxb := allIn_yes HAll.out hx
              have HO := Lib.hid hown; have HU := Lib.hid hu
              obtain ⟨va, vc, rfl⟩ := row_form hown
              have q0 : (q : Int) < (k : Int) := by omega
              have q3 : (q : Int) + 1 < (k : Int) := by omega
              have q4 : decide (q + 1 < k) = true := decide_eq_true (by omega)
              have q5 : decide ((0 : Int) < (q : Int) + 1) = true := decide_eq_true (by omega)
              have q6 : decide ((q : Int) + 1 < (k : Int)) = true := decide_eq_true (by omega)
              have ek : ((q + 1 : Nat) : Int) - 1 = (q : Int) := by omega
              have hpl := gpT_len es q
              have hbd := gpT_bd es q
              have HG := Lib.hid (show gpT es (q + 1) = if alikeB x y then ((gpT es q).1, (gpT es q).2 + 1) else ((gpT es q).1 ++ [(gpT es q).2], 1) by rw [← getD_ofI hx, ← getD_ofI hy]; rfl)
              have HLk := Lib.hid (show gpL es q = (gpT es q).1 ++ [(gpT es q).2] from rfl)
              have HLk1 := Lib.hid (show gpL es (q + 1) = (gpT es (q + 1)).1 ++ [(gpT es (q + 1)).2] from rfl)
              rw [HLk.out] at HO
              generalize (gpT es q).1 = p at *
              generalize (gpT es q).2 = l at *
              obtain ⟨n, hn⟩ : ∃ n, p.length = n := ⟨_, rfl⟩
              have HN := Lib.hid hn
              rw [hn] at HO hpl ⊢
              have hmn : 0 ≤ min y x ∧ min y x ≤ 1125899906842624 := by omega
              have hal0 : alikeB x y = decide (max y x ≤ 2 * min y x + 1024) := by
                unfold alikeB
                rw [show max x y = max y x by omega, show min x y = min y x by omega]
              obtain ⟨hmn1, hmn2⟩ := hmn
              clear hown hu hx hy hn hxb hyb
              cases hal : alikeB x y with
              | true =>
                rw [hal, if_pos rfl] at HG
                rw [hal] at hal0
                have t9 : decide (max y x ≤ 2 * min y x + 1024) = true := hal0.symm
                have hw1 : IntKind.i64.wrap (l + 1) = l + 1 := IntWalk.i64_in _ (by omega)
                clear hal hal0
                obtain ⟨g, gc, e⟩ := row_slice HO.out (show 0 < n + 1 by omega)
                injection e with e1 e2 e3
                subst e1
                subst e3
                go_wp2_with fail
                go_quiet (fail)
                have hr2 : (wr.drewN nq).ownsRow w.heap.size 3 1 (.slice (some ⟨g, 0, none⟩) (n + 1) vc) (n + 1) (i64s (p ++ [l])) := HO.out
                have hu2 : Upd NoB w (wr.drewN nq) := upd_drewN HU.out nq
                clear HO HU c0 c1
                generalize wr.drewN nq = W2 at *
                have c2 : W2.cell? ⟨g, n, none⟩ = some (.int .i64 l) := by
                  rw [hr2.cellAt n (by omega), i64s_get, List.getElem?_append_right (by rw [HN.out]; exact Nat.le_refl _), HN.out, Nat.sub_self]; rfl
                have f2 : W2.frozen? ⟨g, n, none⟩ = false := by
                  rcases hr2.2 with ⟨e, _⟩ | ⟨g', cap, cur, e, _, hg, _⟩
                  · cases e
                  · cases e; exact blk_free hg n
                have HR3 := Lib.hid (row_put_last HN.out hr2 (l + 1))
                have HU3 := Lib.hid (show Upd (fun j => w.heap.size ≤ j) w (W2.setCell ⟨g, n, none⟩ (.int .i64 (l + 1))) from (upd_ge' hu2 w.heap.size).setCell _ (fun _ => (hr2.lt g rfl).1))
                have n1 : (n : Int) < (n : Int) + 1 := by omega
                clear hr2 hu2
                go_wp2_with fail
                go_roundw
                case rel => exact ⟨q + 1 + 1, by omega, by go_num, .inr ⟨q + 1, rfl, by rw [HLk1.out, HG.out]; simp only; rw [HN.out]; exact HR3.out⟩, upd_ge HU3.out⟩
                case measure => simp [intOf]; omega
              | false =>
                rw [hal, if_neg (by simp)] at HG
                rw [hal] at hal0
                have t9 : decide (max y x ≤ 2 * min y x + 1024) = false := hal0.symm
                clear hal hal0
                go_wp2_with fail
                go_quiet (fail)
                have hr2 : (wr.drewN nq).ownsRow w.heap.size 3 1 (.slice va (n + 1) vc) (n + 1) (i64s (p ++ [l])) := HO.out
                have hu2 : Upd NoB w (wr.drewN nq) := upd_drewN HU.out nq
                clear HO HU c0 c1
                generalize wr.drewN nq = W2 at *
                have HR2 := Lib.hid hr2; have HU2 := Lib.hid hu2
                clear hr2 hu2
                go_wp2_with (at_builtin; refine wpList_push rfl (.tmp 61) (.tmp 62) rfl w.heap.size (.slice va (n + 1) vc) (n + 1) (p ++ [l]) 1 rfl rfl HR2.out (by omega) (by have := HU2.out.size; omega) ?_; intro v' w' hown' u'; have R' := Lib.hid hown'; have U' := Lib.hid u'; clear hown' u')
                go_roundw
                case rel => exact ⟨q + 1 + 1, by omega, by go_num, .inr ⟨q + 1, rfl, by rw [HLk1.out, HG.out]; simp only [List.length_append, List.length_cons, List.length_nil]; rw [HN.out]; exact R'.out⟩, upd_ge ((upd_ge' HU2.out w.heap.size).trans U'.out (fun _ _ h => h))⟩
                case measure => simp [intOf]; omega
          · obtain rfl : j = 8 := by omega
            rcases hor with ⟨h0, _⟩ | ⟨q, hq, hown⟩
            · omega
            obtain rfl : q = 7 := by omega
            obtain ⟨va, vc, rfl⟩ := row_form hown
            have HO := Lib.hid hown; have HU := Lib.hid hu
            have t8 : decide ((8 : Int) < (k : Int)) = false := decide_eq_false (by omega)
            clear hown hu
            go_wp2_with fail
            go_ret2
            exact ⟨_, _, _, by rw [HE.out]; rfl, by rw [HS.out]; have := HO.out; unfold gpL at this ⊢; rw [List.length_append]; exact this, HU.out⟩
  · have HE := Lib.hid (show gE es = 1 from if_pos (by rw [HL.out]; exact h1))
    have HS := Lib.hid (show gpS es = [] from if_neg (by rw [HE.out]; decide))
    rw [HE.out, HS.out]
    have t0 : ((L : Int) != 8) = true := by rw [bne_iff_ne]; omega
    clear h1 hlb
    go_enter Try.func35, Try.ntmps35
    go_wp2
    go_ret2
    exact ⟨none, 0, 0, rfl, World.ownsRow_nil _ _ _ _, Upd.refl _ _⟩
end Go.Proofs.Ytmkbpocibpjjaaa
