/- block: Groups, in the program and in the reference -/
import Derived.Test.YtmkbpocibpjjaaaLI
namespace Go.Proofs.Ytmkbpocibpjjaaa
open Go.RowKit Go.Shelf

def alikeB (a b : Int) : Bool := decide (max a b ≤ 2 * min a b + 1024)
/-- the groups of the blocks 0, .., k: those that are ended, and the last one -/
def gpT (es : List Int) : Nat → List Int × Int
  | 0 => ([], 1)
  | k + 1 => if alikeB (es.getD k 0) (es.getD (k + 1) 0) then ((gpT es k).1, (gpT es k).2 + 1) else ((gpT es k).1 ++ [(gpT es k).2], 1)
def gpL (es : List Int) (k : Nat) : List Int := (gpT es k).1 ++ [(gpT es k).2]
def gE (es : List Int) : Int := if es.length ≠ 8 then 1 else if allIn 0 1125899906842624 es then 0 else 1
def gpS (es : List Int) : List Int := if gE es = 0 then gpL es 7 else []
theorem gE_ok {es : List Int} (h : gE es = 0) : es.length = 8 ∧ allIn 0 1125899906842624 es = true := by
  unfold gE at h
  split at h
  · omega
  · split at h
    · rename_i h1 h2; exact ⟨by omega, h2⟩
    · omega
theorem gpT_len (es : List Int) : ∀ k, (gpT es k).1.length ≤ k
  | 0 => Nat.le_refl _
  | k + 1 => by
    have ih := gpT_len es k
    unfold gpT
    split
    · simp only; omega
    · simp only [List.length_append, List.length_cons, List.length_nil]; omega
theorem gpT_bd (es : List Int) : ∀ k : Nat, 1 ≤ (gpT es k).2 ∧ (gpT es k).2 ≤ (k : Int) + 1
  | 0 => by simp [gpT]
  | k + 1 => by
    have ih := gpT_bd es k
    unfold gpT
    split <;> simp only <;> omega
theorem gpL_sum (es : List Int) : ∀ k : Nat, (gpL es k).sum = (k : Int) + 1
  | 0 => by simp [gpL, gpT]
  | k + 1 => by
    have ih := gpL_sum es k
    unfold gpL at ih ⊢
    unfold gpT
    rw [List.sum_append] at ih
    split
    · simp only [List.sum_append, List.sum_cons, List.sum_nil] at ih ⊢; omega
    · simp only [List.sum_append, List.sum_cons, List.sum_nil] at ih ⊢; omega
theorem gpL_same (v : Int) (hv : 0 ≤ v) (es : List Int) (h : ∀ k, k ≤ 7 → es.getD k 0 = v) : ∀ k : Nat, k ≤ 7 → gpT es k = ([], (k : Int) + 1)
  | 0, _ => by simp [gpT]
  | k + 1, hk => by
    have ih := gpL_same v hv es h k (by omega)
    unfold gpT
    rw [h k (by omega), h (k + 1) hk, show alikeB v v = true from decide_eq_true (by omega), if_pos rfl, ih]
    simp
theorem areAlike_any (a b : Int) (w : World) (ha : 0 ≤ a ∧ a ≤ 1125899906842624) (hb : 0 ≤ b ∧ b ≤ 1125899906842624) :
    Calls Try.prog 55 #[.int .i64 a, .int .i64 b] w fun e w' => e = .returned (.bool (alikeB a b)) ∧ w' = w := by
  unfold alikeB
  have h1 : 0 ≤ min a b ∧ min a b ≤ 1125899906842624 := by omega
  obtain ⟨mx, hmx⟩ : ∃ m, max a b = m := ⟨_, rfl⟩
  obtain ⟨mn, hmn⟩ : ∃ m, min a b = m := ⟨_, rfl⟩
  rw [hmn] at h1
  rw [hmx, hmn]
  obtain ⟨ha0, ha1⟩ := ha
  obtain ⟨h10, h11⟩ := h1
  clear hb
  go_enter Try.func55, Try.ntmps55
  go_wp2
  go_ret
  exact ⟨rfl, rfl⟩
theorem set_last (p : List Int) (l x : Int) : (i64s (p ++ [l])).set p.length (.int .i64 x) = i64s (p ++ [x]) := by
  rw [i64s_append, i64s_append, List.set_append_right _ _ (by simp [i64s])]
  simp [i64s]
/-- the last element of a row is put anew -/
theorem row_put_last {w : World} {B : Nat} {g c n : Nat} {p : List Int} {l : Int} (hn : p.length = n) (h : w.ownsRow B 3 1 (.slice (some ⟨g, 0, none⟩) (n + 1) c) (n + 1) (i64s (p ++ [l]))) (x : Int) :
    (w.setCell ⟨g, n, none⟩ (.int .i64 x)).ownsRow B 3 1 (.slice (some ⟨g, 0, none⟩) (n + 1) c) (n + 1) (i64s (p ++ [x])) := by
  rcases h.2 with ⟨e, _⟩ | ⟨g', cap, cur, e, hb, hg, hnc, hm, hs, ht⟩
  · cases e
  · cases e
    refine ⟨by simp [i64s, hn], .inr ⟨g, c, cur.setIfInBounds n (.int .i64 x), rfl, hb, block_set hg _, hnc, hm, by simpa using hs, ?_⟩⟩
    subst hn
    rw [Array.toList_setIfInBounds, List.take_set, ht, set_last]
set_option maxRecDepth 100000 in
set_option maxHeartbeats 4000000 in
theorem Groups_any (v : Value) (es : List Int) (w : World) (h : Ints w v es) : Calls Try.prog 34 #[v] w (EInts w (gpS es) (gE es)) := by
  obtain ⟨a, cap, rfl⟩ := h.form
  have H := Lib.hid h
  have hlb := h.1
  obtain ⟨L, hL⟩ : ∃ L, es.length = L := ⟨_, rfl⟩
  have HL := Lib.hid hL
  rw [hL] at H hlb ⊢
  clear h hL
  by_cases h1 : L = 8
  · have HMn := Lib.hid (sMin_any (.slice a L cap) es 7 w H.out (HL.out.trans h1) (by omega))
    have HMx := Lib.hid (sMax_any (.slice a L cap) es 7 w H.out (HL.out.trans h1) (by omega))
    have HI := Lib.hid (minmax_in (lo := 0) (hi := 1125899906842624) (HL.out.trans h1))
    have hgE : gE es = if allIn 0 1125899906842624 es then 0 else 1 := if_neg (by rw [HL.out, h1]; simp)
    have t0 : ((L : Int) != 8) = false := by rw [h1]; rfl
    generalize mnT es 7 = m1 at *
    generalize mxT es 7 = m2 at *
    by_cases g1 : m1 < 0
    · have HE := Lib.hid (show gE es = 1 by rw [hgE, show allIn 0 1125899906842624 es = false by cases e : allIn 0 1125899906842624 es with | false => rfl | true => exact absurd g1 (HI.out.1 e).1]; rfl)
      have HS := Lib.hid (show gpS es = [] from if_neg (by rw [HE.out]; decide))
      rw [HE.out, HS.out]
      have s1 : decide (m1 < 0) = true := decide_eq_true g1
      clear g1 hgE h1 hlb
      go_enter Try.func34, Try.ntmps34
      go_wp2_with (first | (go_at_call 51; refine HMn.out.mono ?_; rintro e w' ⟨rfl, rfl⟩) | (go_at_call 52; refine HMx.out.mono ?_; rintro e w' ⟨rfl, rfl⟩))
      go_ret2
      exact ⟨none, 0, 0, rfl, World.ownsRow_nil _ _ _ _, Upd.refl _ _⟩
    have s1 : decide (m1 < 0) = false := decide_eq_false g1
    by_cases g2 : 1125899906842624 < m2
    · have HE := Lib.hid (show gE es = 1 by rw [hgE, show allIn 0 1125899906842624 es = false by cases e : allIn 0 1125899906842624 es with | false => rfl | true => exact absurd g2 (HI.out.1 e).2]; rfl)
      have HS := Lib.hid (show gpS es = [] from if_neg (by rw [HE.out]; decide))
      rw [HE.out, HS.out]
      have s2 : decide ((1125899906842624 : Int) < m2) = true := decide_eq_true g2
      clear g1 g2 hgE h1 hlb
      go_enter Try.func34, Try.ntmps34
      go_wp2_with (first | (go_at_call 51; refine HMn.out.mono ?_; rintro e w' ⟨rfl, rfl⟩) | (go_at_call 52; refine HMx.out.mono ?_; rintro e w' ⟨rfl, rfl⟩))
      go_ret2
      exact ⟨none, 0, 0, rfl, World.ownsRow_nil _ _ _ _, Upd.refl _ _⟩
    have s2 : decide ((1125899906842624 : Int) < m2) = false := decide_eq_false g2
    have hall : allIn 0 1125899906842624 es = true := HI.out.2 ⟨g1, g2⟩
    have hE0 : gE es = 0 := by rw [hgE, hall]; rfl
    have HE := Lib.hid hE0
    have HS := Lib.hid (show gpS es = gpL es 7 from if_pos hE0)
    have HAll := Lib.hid hall
    rw [HE.out, HS.out]
    have HL8 := Lib.hid h1
    have hL8 : (8 : Int) ≤ (L : Int) := by omega
    clear g1 g2 hgE h1 hlb hall hE0
    go_enter Try.func34, Try.ntmps34
    go_wp2_with (first | (go_at_call 51; refine HMn.out.mono ?_; rintro e w' ⟨rfl, rfl⟩) | (go_at_call 52; refine HMx.out.mono ?_; rintro e w' ⟨rfl, rfl⟩))
    have hown0 : (w.alloc (.cells #[.int .i64 1] 3)).ownsRow w.heap.size 3 1 (.slice (some ⟨w.heap.size, 0, none⟩) 1 1) 1 (i64s (gpL es 0)) := World.ownsRow_lit (base := w.heap.size) (size := 1) (e := 3) w #[.int .i64 1] 1 (Nat.le_refl _) (by decide) rfl
    have u0 : Upd NoB w (w.alloc (.cells #[.int .i64 1] 3)) := (Upd.refl _ _).alloc _
    generalize w.alloc (.cells #[.int .i64 1] 3) = W at *
    go_loopw [4, 5] (fun v i wr => ∃ k : Nat, k ≤ 7 ∧ i = .int .i64 (k + 1 : Nat) ∧ wr.ownsRow w.heap.size 3 1 v ((gpT es k).1.length + 1) (i64s (gpL es k)) ∧ Upd NoB w wr) (fun _ i _ => 9 - (intOf i).toNat)
    case atStart => exact ⟨0, Nat.zero_le _, rfl, hown0, u0⟩
    case round =>
      obtain ⟨k, hk, rfl, hown, hu⟩ := hrel
      by_cases hlt : k < 7
      · obtain ⟨va, vc, rfl⟩ := row_form hown
        have HO := Lib.hid hown; have HU := Lib.hid hu
        obtain ⟨x, hx⟩ : ∃ x, es[k]? = some x := ⟨_, List.getElem?_eq_getElem (by rw [HL.out, HL8.out]; omega)⟩
        obtain ⟨y, hy⟩ : ∃ y, es[k + 1]? = some y := ⟨_, List.getElem?_eq_getElem (by rw [HL.out, HL8.out]; omega)⟩
        obtain ⟨b, off, rfl, c0⟩ := (H.out.later hu).cellAt hx
        obtain ⟨b', off', e, c1⟩ := (H.out.later hu).cellAt hy
        cases e
        have hq : ∀ n, Calls Try.prog 55 #[.int .i64 x, .int .i64 y] (wr.drewN n) fun e w'' => e = .returned (.bool (alikeB x y)) ∧ ∃ m, w'' = wr.drewN m := fun n =>
          (areAlike_any x y (wr.drewN n) (allIn_yes HAll.out hx) (allIn_yes HAll.out hy)).mono fun _ _ h => ⟨h.1, n, h.2⟩
        have Hq := Lib.hid hq
        have q0 : (k : Int) < (L : Int) := by omega
        have q1 : (k : Int) + 1 < (L : Int) := by omega
        have q2 : ((k + 1 : Nat) : Int) < (L : Int) := by omega
        have ek : ((k + 1 : Nat) : Int) - 1 = (k : Int) := by omega
        have hpl := gpT_len es k
        have hbd := gpT_bd es k
        have HG := Lib.hid (show gpT es (k + 1) = if alikeB x y then ((gpT es k).1, (gpT es k).2 + 1) else ((gpT es k).1 ++ [(gpT es k).2], 1) by rw [← getD_ofI hx, ← getD_ofI hy]; rfl)
        have HLk := Lib.hid (show gpL es k = (gpT es k).1 ++ [(gpT es k).2] from rfl)
        have HLk1 := Lib.hid (show gpL es (k + 1) = (gpT es (k + 1)).1 ++ [(gpT es (k + 1)).2] from rfl)
        rw [HLk.out] at HO
        generalize (gpT es k).1 = p at *
        generalize (gpT es k).2 = l at *
        obtain ⟨n, hn⟩ : ∃ n, p.length = n := ⟨_, rfl⟩
        have HN := Lib.hid hn
        rw [hn] at HO hpl ⊢
        clear hown hu hx hy hq hown0 u0 hn
        cases hal : alikeB x y with
        | true =>
          have HAl := Lib.hid hal
          rw [hal, if_pos rfl] at HG
          rw [hal] at Hq
          have hw1 : IntKind.i64.wrap (l + 1) = l + 1 := IntWalk.i64_in _ (by omega)
          clear hal
          obtain ⟨g, gc, e⟩ := row_slice HO.out (show 0 < n + 1 by omega)
          injection e with e1 e2 e3
          subst e1
          subst e3
          go_wp2_with fail
          go_quiet ((exact Hq.out _))
          have hr2 : (wr.drewN nq).ownsRow w.heap.size 3 1 (.slice (some ⟨g, 0, none⟩) (n + 1) vc) (n + 1) (i64s (p ++ [l])) := HO.out
          have hu2 : Upd NoB w (wr.drewN nq) := upd_drewN HU.out nq
          clear Hq HO HU c0 c1
          generalize wr.drewN nq = W2 at *
          have c2 : W2.cell? ⟨g, n, none⟩ = some (.int .i64 l) := by
            rw [hr2.cellAt n (by omega), i64s_get, List.getElem?_append_right (by rw [HN.out]; exact Nat.le_refl _), HN.out, Nat.sub_self]; rfl
          have f2 : W2.frozen? ⟨g, n, none⟩ = false := by
            rcases hr2.2 with ⟨e, _⟩ | ⟨g', cap, cur, e, _, hg, _⟩
            · cases e
            · cases e; exact blk_free hg n
          have HR3 := Lib.hid (row_put_last HN.out hr2 (l + 1))
          have HU3 := Lib.hid (show Upd (fun j => w.heap.size ≤ j) w (W2.setCell ⟨g, n, none⟩ (.int .i64 (l + 1))) from (upd_ge' hu2 w.heap.size).setCell _ (fun _ => (hr2.lt g rfl).1))
          have n1 : (n : Int) < (n : Int) + 1 := by omega
          clear hr2 hu2
          go_wp2_with fail
          go_roundw
          case rel => exact ⟨k + 1, by omega, by go_num, by rw [HLk1.out, HG.out]; simp only; rw [HN.out]; exact HR3.out, upd_ge HU3.out⟩
          case measure => simp [intOf]; omega
        | false =>
          rw [hal, if_neg (by simp)] at HG
          rw [hal] at Hq
          clear hal
          go_wp2_with fail
          go_quiet ((exact Hq.out _))
          have hr2 : (wr.drewN nq).ownsRow w.heap.size 3 1 (.slice va (n + 1) vc) (n + 1) (i64s (p ++ [l])) := HO.out
          have hu2 : Upd NoB w (wr.drewN nq) := upd_drewN HU.out nq
          clear Hq HO HU c0 c1
          generalize wr.drewN nq = W2 at *
          have HR2 := Lib.hid hr2; have HU2 := Lib.hid hu2
          clear hr2 hu2
          go_wp2_with (at_builtin; refine wpList_push rfl (.tmp 42) (.tmp 43) rfl w.heap.size (.slice va (n + 1) vc) (n + 1) (p ++ [l]) 1 rfl rfl HR2.out (by omega) (by have := HU2.out.size; omega) ?_; intro v' w' hown' u'; have R' := Lib.hid hown'; have U' := Lib.hid u'; clear hown' u')
          go_roundw
          case rel => exact ⟨k + 1, by omega, by go_num, by rw [HLk1.out, HG.out]; simp only [List.length_append, List.length_cons, List.length_nil]; rw [HN.out]; exact R'.out, upd_ge ((upd_ge' HU2.out w.heap.size).trans U'.out (fun _ _ h => h))⟩
          case measure => simp [intOf]; omega
      · obtain rfl : k = 7 := by omega
        obtain ⟨va, vc, rfl⟩ := row_form hown
        have HO := Lib.hid hown; have HU := Lib.hid hu
        clear hown hu hown0 u0
        go_wp2_with fail
        go_ret2
        exact ⟨_, _, _, rfl, by have := HO.out; unfold gpL at this ⊢; rw [List.length_append]; exact this, HU.out⟩
  · have HE := Lib.hid (show gE es = 1 from if_pos (by rw [HL.out]; exact h1))
    have HS := Lib.hid (show gpS es = [] from if_neg (by rw [HE.out]; decide))
    rw [HE.out, HS.out]
    have t0 : ((L : Int) != 8) = true := by rw [bne_iff_ne]; omega
    clear h1 hlb
    go_enter Try.func34, Try.ntmps34
    go_wp2
    go_ret2
    exact ⟨none, 0, 0, rfl, World.ownsRow_nil _ _ _ _, Upd.refl _ _⟩
end Go.Proofs.Ytmkbpocibpjjaaa
