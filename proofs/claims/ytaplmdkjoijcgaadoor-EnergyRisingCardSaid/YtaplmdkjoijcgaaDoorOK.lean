/- energy: the greatest; the tone of a band -/
import Derived.Test.YtaplmdkjoijcgaaDoorOJ
import Derived.Deep.RegionHeld3
import Derived.Lib.MinMax
namespace Go.Proofs.YtaplmdkjoijcgaaDoor
open Go.RowKit Go.Shelf

def mxL (a : Int) (xs : List Int) : Int := xs.foldl max a
theorem mxL_take {a : Int} {xs : List Int} {k : Nat} {x : Int} (h : xs[k]? = some x) : mxL a (xs.take (k + 1)) = max (mxL a (xs.take k)) x := by
  unfold mxL
  rw [List.take_add_one, h, List.foldl_append]; rfl
set_option maxRecDepth 100000 in
set_option maxHeartbeats 2000000 in
theorem greatest_any (a : Int) (sv : Value) (xs : List Int) (w : World) (h : Ints w sv xs) : Calls Tryd.prog 93 #[.int .i64 a, sv] w fun r w' => r = .returned (.int .i64 (mxL a xs)) ∧ w = w' := by
  obtain ⟨xa, cap, rfl⟩ := h.form
  have hlb := h.1
  have H := Lib.hid h
  have HE := Lib.hid (show mxL a (xs.take xs.length) = mxL a xs by rw [List.take_length])
  have H0 := Lib.hid (show mxL a (xs.take 0) = a from rfl)
  obtain ⟨L, hL⟩ : ∃ L, xs.length = L := ⟨_, rfl⟩
  have HL := Lib.hid hL
  rw [hL] at H hlb HE ⊢
  clear h hL
  go_enter Tryd.func93, Tryd.ntmps93
  go_wp2_with fail
  go_loop [0, 9] (fun s i => ∃ k : Nat, k ≤ L ∧ i = .int .i64 k ∧ s = .int .i64 (mxL a (xs.take k))) (fun _ i => L - (intOf i).toNat)
  case atStart => exact ⟨0, Nat.zero_le _, rfl, by rw [H0.out]⟩
  case round =>
    obtain ⟨k, hk, rfl, rfl⟩ := hrel
    by_cases hlt : k < L
    · obtain ⟨x, hx⟩ : ∃ x, xs[k]? = some x := ⟨_, List.getElem?_eq_getElem (by rw [HL.out]; exact hlt)⟩
      obtain ⟨bb, off, rfl, c0⟩ := H.out.cellAt hx
      have HM := Lib.hid (mxL_take (a := a) hx)
      generalize mxL a (xs.take k) = m at *
      clear hx
      go_wp2_with fail
      go_round
      case rel => exact ⟨k + 1, by omega, by go_num, by rw [HM.out]⟩
      case measure => simp [intOf]; omega
    · obtain rfl : k = L := by omega
      rw [HE.out]
      clear hlt
      go_wp2_with fail
      go_ret
      exact ⟨rfl, rfl⟩
set_option maxRecDepth 100000 in
set_option maxHeartbeats 2000000 in
theorem meanSq_any (b : Nat) (a : Option Addr) (cap : Nat) (xs : List Int) (w : World) (hb : w.cell? ⟨b, 0, none⟩ = some (.slice a xs.length cap)) (h : Ints w (.slice a xs.length cap) xs) (hc : CoB xs) (h0 : 0 < xs.length) (hl : xs.length ≤ 300) :
    Calls Tryd.prog 91 #[.func (.func 90) #[] #[], .pointer (some ⟨b, 0, none⟩)] w fun r w' => r = .returned (.int .i64 ((sqs xs).tdiv xs.length)) ∧ Upd NoB w w' := by
  have HS := Lib.hid (fun w' (u : Upd NoB w w') => sumSq_any (.slice a xs.length cap) xs w' (h.later u) hc hl)
  obtain ⟨s0, s1⟩ := sqs_bd hc hl
  obtain ⟨L, hL⟩ : ∃ L, xs.length = L := ⟨_, rfl⟩
  rw [hL] at hb HS h0 hl ⊢
  obtain ⟨V, hV⟩ : ∃ V, (sqs xs).tdiv (L : Int) = V := ⟨_, rfl⟩
  have hVb : 0 ≤ V ∧ V ≤ 1319413953331200 := by
    rw [← hV, Int.tdiv_eq_ediv_of_nonneg s0]
    exact ⟨Int.ediv_nonneg s0 (by omega), Int.le_trans (Int.ediv_le_self _ s0) s1⟩
  generalize sqs xs = S at *
  have y0 : ¬ L = 0 := by omega
  have y1 : (((L : Nat) : Int) == 0) = false := by rw [beq_eq_false_iff_ne]; omega
  have y2 : decide (((L : Nat) : Int) = 0) = false := decide_eq_false (by omega)
  have y3 : IntKind.i64.wrap (S.tdiv (L : Int)) = V := by rw [hV]; exact IntWalk.i64_in _ (by omega)
  have y4 : wrap64 (S.tdiv (L : Int)) = V := by rw [hV]; exact IntWalk.wrap64_in _ (by omega)
  have hS0 : w.drew.cell? ⟨b, 0, none⟩ = some (.slice a L cap) := hb
  have UD := Lib.hid (Upd.refl NoB w).drew
  rw [hV]
  clear hV hL h hc
  go_enter Tryd.func91, Tryd.ntmps91
  go_wp2_with fail
  go_region_held3 (fun X => X.cell? ⟨b, 0, none⟩ = some (.slice a L cap)) (first | exact hS0) (first | (go_at_call 89; refine (HS.out _ UD.out).mono ?_; rintro r w2 ⟨rfl, rfl⟩))
  go_wp2_with fail
  go_ret
  exact ⟨rfl, UD.out⟩
set_option maxRecDepth 100000 in
set_option maxHeartbeats 2000000 in
theorem meanLv_any (b : Nat) (a : Option Addr) (cap : Nat) (xs : List Int) (w : World) (hb : w.cell? ⟨b, 0, none⟩ = some (.slice a xs.length cap)) (h : Ints w (.slice a xs.length cap) xs) (hc : CoB xs) (h0 : 0 < xs.length) (hl : xs.length ≤ 300) :
    Calls Tryd.prog 91 #[.func (.func 92) #[] #[], .pointer (some ⟨b, 0, none⟩)] w fun r w' => r = .returned (.int .i64 ((lvs xs).tdiv xs.length)) ∧ Upd NoB w w' := by
  have HS := Lib.hid (fun w' (u : Upd NoB w w') => sumLv_any (.slice a xs.length cap) xs w' (h.later u) hc hl)
  obtain ⟨s0, s1⟩ := lvs_bd hc hl
  obtain ⟨L, hL⟩ : ∃ L, xs.length = L := ⟨_, rfl⟩
  rw [hL] at hb HS h0 hl ⊢
  obtain ⟨V, hV⟩ : ∃ V, (lvs xs).tdiv (L : Int) = V := ⟨_, rfl⟩
  have hVb : 0 ≤ V ∧ V ≤ 4838400 := by
    rw [← hV, Int.tdiv_eq_ediv_of_nonneg s0]
    exact ⟨Int.ediv_nonneg s0 (by omega), Int.le_trans (Int.ediv_le_self _ s0) s1⟩
  generalize lvs xs = S at *
  have y0 : ¬ L = 0 := by omega
  have y1 : (((L : Nat) : Int) == 0) = false := by rw [beq_eq_false_iff_ne]; omega
  have y2 : decide (((L : Nat) : Int) = 0) = false := decide_eq_false (by omega)
  have y3 : IntKind.i64.wrap (S.tdiv (L : Int)) = V := by rw [hV]; exact IntWalk.i64_in _ (by omega)
  have y4 : wrap64 (S.tdiv (L : Int)) = V := by rw [hV]; exact IntWalk.wrap64_in _ (by omega)
  have hS0 : w.drew.cell? ⟨b, 0, none⟩ = some (.slice a L cap) := hb
  have HK := Lib.hid (fun w' (u : Upd NoB w w') => (u.cell hb (noB _) : w'.cell? ⟨b, 0, none⟩ = some (.slice a L cap)))
  have UD := Lib.hid (Upd.refl NoB w).drew
  rw [hV]
  clear hV hL h hc
  go_enter Tryd.func91, Tryd.ntmps91
  go_wp2_with fail
  go_region_held3 (fun X => X.cell? ⟨b, 0, none⟩ = some (.slice a L cap)) (first | exact hS0 | exact HK.out _ (by exact U2.out)) (first | (go_at_call 89; refine (HS.out _ UD.out).mono ?_; rintro r w2 ⟨rfl, u2⟩; have U2 := Lib.hid (UD.out.then u2); clear u2))
  go_wp2_with fail
  go_ret
  exact ⟨rfl, U2.out⟩
/-- the tone of a band -/
def tnD (xs : List Int) : Int := lv ((sqs xs).tdiv xs.length) - (lvs xs).tdiv xs.length
def tnV (xs : List Int) : Int := min (max 0 ((tnD xs).tdiv 8)) 255
set_option maxRecDepth 100000 in
set_option maxHeartbeats 2000000 in
theorem toneOf_any (sv : Value) (xs : List Int) (w : World) (h : Ints w sv xs) (hc : CoB xs) (h0 : 0 < xs.length) (hl : xs.length ≤ 300) : Calls Tryd.prog 74 #[sv] w fun r w' => r = .returned (.int .i64 (tnV xs)) ∧ Upd NoB w w' := by
  obtain ⟨a, cap, rfl⟩ := h.form
  obtain ⟨W, hW⟩ : ∃ W, W = w.alloc (.cells #[.slice a xs.length cap] 22) := ⟨_, rfl⟩
  have u0 : Upd NoB w W := by rw [hW]; exact (Upd.refl _ _).alloc _
  have b0 : W.cell? ⟨w.heap.size, 0, none⟩ = some (.slice a xs.length cap) := by rw [hW]; exact blk_cell (heap_alloc_new w _) 0
  have HS := Lib.hid (meanSq_any w.heap.size a cap xs W b0 (h.later u0) hc h0 hl)
  have HL := Lib.hid (fun w' (u : Upd NoB W w') => meanLv_any w.heap.size a cap xs w' (u.cell b0 (noB _)) ((h.later u0).later u) hc h0 hl)
  obtain ⟨s0, s1⟩ := sqs_bd hc hl
  obtain ⟨l0, l1⟩ := lvs_bd hc hl
  have HT := Lib.hid (show tnV xs = min (max 0 ((lv ((sqs xs).tdiv xs.length) - (lvs xs).tdiv xs.length).tdiv 8)) 255 from rfl)
  have hq : 0 ≤ (sqs xs).tdiv xs.length ∧ (sqs xs).tdiv xs.length ≤ 1319413953331200 := by
    rw [Int.tdiv_eq_ediv_of_nonneg s0]
    exact ⟨Int.ediv_nonneg s0 (by omega), Int.le_trans (Int.ediv_le_self _ s0) s1⟩
  have hm : 0 ≤ (lvs xs).tdiv xs.length ∧ (lvs xs).tdiv xs.length ≤ 4838400 := by
    rw [Int.tdiv_eq_ediv_of_nonneg l0]
    exact ⟨Int.ediv_nonneg l0 (by omega), Int.le_trans (Int.ediv_le_self _ l0) l1⟩
  generalize xs.length = L at *
  generalize (sqs xs).tdiv (L : Int) = Q at *
  generalize (lvs xs).tdiv (L : Int) = M at *
  have HLv := Lib.hid (fun w' => levelOf_any Q w' hq.1 (by omega))
  obtain ⟨v0, v1⟩ := lv_bd hq.1 (show Q ≤ 72057594037927936 by omega)
  generalize lv Q = V at *
  obtain ⟨m0, m1⟩ := hm
  obtain ⟨T, hT⟩ : ∃ T, (V - M).tdiv 8 = T := ⟨_, rfl⟩
  rw [hT] at HT
  have hTb : -4838400 ≤ T ∧ T ≤ 16128 := by
    rw [← hT]
    rcases Int.le_total 0 (V - M) with hn | hn
    · rw [Int.tdiv_eq_ediv_of_nonneg hn]; omega
    · have : (V - M).tdiv 8 = -((-(V - M)).tdiv 8) := by rw [Int.neg_tdiv, Int.neg_neg]
      rw [this, Int.tdiv_eq_ediv_of_nonneg (by omega)]; omega
  have y3 : IntKind.i64.wrap ((V - M).tdiv 8) = T := by rw [hT]; exact IntWalk.i64_in _ (by omega)
  have y4 : wrap64 ((V - M).tdiv 8) = T := by rw [hT]; exact IntWalk.wrap64_in _ (by omega)
  have HMx := Lib.hid (show mxL 0 [T] = max 0 T from rfl)
  have HW := Lib.hid hW; have U0 := Lib.hid u0
  rw [HT.out]
  clear h hc h0 hl hW u0 b0 s0 s1 l0 l1 hq hT
  go_enter Tryd.func74, Tryd.ntmps74
  go_wp2_with fail
  rw [← HW.out]
  refine HS.out.mono ?_
  rintro r w2 ⟨rfl, u2⟩
  have U2 := Lib.hid u2
  clear u2
  go_wp2_with fail
  refine (HLv.out w2).mono ?_
  rintro r w3 ⟨rfl, u3⟩
  have U3 := Lib.hid (U2.out.then u3)
  clear u3
  go_wp2_with fail
  refine (HL.out w3 U3.out).mono ?_
  rintro r w4 ⟨rfl, u4⟩
  have U4 := Lib.hid (U3.out.then u4)
  clear u4
  go_wp2_with fail
  refine (greatest_any 0 _ [T] _ (Ints.ofBlock (xs := [T]) (by simp) (heap_alloc_new w4 _))).mono ?_
  rw [HMx.out]
  rintro r w5 ⟨rfl, rfl⟩
  go_wp2_with fail
  go_ret
  exact ⟨rfl, (U0.out.then U4.out).alloc _⟩
end Go.Proofs.YtaplmdkjoijcgaaDoor
