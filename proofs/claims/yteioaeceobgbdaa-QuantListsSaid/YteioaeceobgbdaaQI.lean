/- quant: sizesOf, greatest, reaches -/
import Derived.Test.YteioaeceobgbdaaQH
namespace Go.Proofs.Yteioaeceobgbdaa
open Go.RowKit Go.Shelf

def szI (v : Int) : Int := max v (-v)
set_option maxRecDepth 100000 in
theorem size1_any (v : Int) (w : World) (h : -2097152 ≤ v ∧ v ≤ 2097152) : Calls Try.prog 101 #[.int .i64 v] w fun e w' => e = .returned (.int .i64 (szI v)) ∧ w' = w := by
  have y1 : IntKind.i64.wrap (-v) = -v := IntWalk.i64_in _ (by omega)
  have y2 : wrap64 (-v) = -v := IntWalk.wrap64_in _ (by omega)
  clear h
  go_enter Try.func101, Try.ntmps101
  go_wp2_with fail
  go_ret
  exact ⟨rfl, rfl⟩
set_option maxRecDepth 100000 in
set_option maxHeartbeats 2000000 in
theorem eachS_any (sv : Value) (xs : List Int) (w : World) (h : Ints w sv xs) (hl : xs.length ≤ 128) (hin : inM 2097152 xs = true) :
    Calls Try.prog 54 #[sv, .func (.func 101) #[] #[]] w fun e w' => ∃ v, e = .returned v ∧ w'.ownsRow w.heap.size 3 1 v xs.length (i64s (xs.map szI)) ∧ Upd NoB w w' := by
  have HF := Lib.hid (fun (k : Nat) (q : Int) (hq : xs[k]? = some q) W => size1_any q W (inM_yes hin q (List.mem_of_getElem? hq)))
  have HX := Lib.hid h
  have HE := Lib.hid (show (xs.take xs.length).map szI = xs.map szI by rw [List.take_length])
  have HT := Lib.hid (fun k x (h : xs[k]? = some x) => mmap_take (f := szI) h)
  obtain ⟨a, cap, rfl⟩ := h.form
  obtain ⟨i0, hi, hz0, hz1, hz2⟩ := info_parts Try.infoInt
  obtain ⟨L, hL⟩ : ∃ L, xs.length = L := ⟨_, rfl⟩
  have HL := Lib.hid hL
  rw [hL] at hl HE HX ⊢
  clear h hin hL
  go_enter Try.func54, Try.ntmps54
  go_wp2_with (refine wpList_make_own w rfl _ _ 28 rfl w.heap.size 3 i0 (.int .i64 0) 1 Try.underlying28 hi hz0 hz1 .i64 .i64 _ L rfl rfl rfl ?c1 ?c2 ?c3 ?_)
  case c1 => rw [hz2]; omega
  case c2 => unfold maxLen; omega
  case c3 => exact Nat.le_refl _
  intro w1 hown hgr
  have HO := Lib.hid hown; have U1 := Lib.hid (show Upd NoB w w1 from (Upd.refl _ _).grown hgr (fun k e => by cases e))
  clear hown hgr
  go_wp2_with fail
  go_loopw [5, 13] (fun v i wr => ∃ k : Nat, k ≤ L ∧ i = .int .i64 k ∧ wr.ownsRow w.heap.size 3 1 v k (i64s ((xs.take k).map szI)) ∧ Upd NoB w wr) (fun _ i _ => L - (intOf i).toNat)
  case atStart => exact ⟨0, Nat.zero_le _, rfl, HO.out, U1.out⟩
  case round =>
    obtain ⟨k, hk, rfl, hown, hu⟩ := hrel
    obtain ⟨va, vc, rfl⟩ := row_form hown
    have HOw := Lib.hid hown; have HU := Lib.hid hu
    by_cases hlt : k < L
    · obtain ⟨x, hx⟩ : ∃ x, xs[k]? = some x := ⟨_, List.getElem?_eq_getElem (by rw [HL.out]; exact hlt)⟩
      obtain ⟨bb, off, rfl, c0⟩ := (HX.out.later hu).cellAt hx
      have HFx := Lib.hid (HF.out k x hx wr)
      have HM2 := Lib.hid (HT.out k x hx)
      have hb2 := hu.size
      generalize (xs.take k).map szI = ys at *
      generalize szI x = y at *
      have hk6 : k ≤ 1000000 := by omega
      clear hx hown hu
      go_wp2_with fail
      refine HFx.out.mono ?_
      rintro r w2 ⟨rfl, hw2⟩
      rw [hw2]
      clear hw2 w2
      go_wp2_with (at_builtin; refine wpList_push rfl (.tmp 17) (.tmp 21) rfl w.heap.size (.slice va k vc) k ys y rfl rfl HOw.out hk6 hb2 ?_; intro v' w' hown' u'; have R' := Lib.hid hown'; have U' := Lib.hid u'; clear hown' u')
      go_roundw
      case rel => exact ⟨k + 1, by omega, by go_num, by rw [HM2.out]; exact R'.out, upd_ge ((upd_ge' HU.out w.heap.size).trans U'.out (fun _ _ h => h))⟩
      case measure => simp [intOf]; omega
    · obtain rfl : k = L := by omega
      rw [HE.out] at HOw
      clear hlt hown hu
      go_wp2_with fail
      go_ret
      exact ⟨_, rfl, HOw.out, HU.out⟩
set_option maxRecDepth 100000 in
theorem sizesOf_any (sv : Value) (xs : List Int) (w : World) (h : Ints w sv xs) (hl : xs.length ≤ 128) (hin : inM 2097152 xs = true) :
    Calls Try.prog 60 #[sv] w fun e w' => ∃ a c, e = .returned (.slice a xs.length c) ∧ Ints w' (.slice a xs.length c) (xs.map szI) ∧ Upd NoB w w' := by
  have HE := Lib.hid (eachS_any sv xs w h hl hin)
  have HL := Lib.hid (show (xs.map szI).length = xs.length by rw [List.length_map])
  obtain ⟨a, cap, rfl⟩ := h.form
  generalize xs.map szI = ys at *
  generalize xs.length = L at *
  clear h hin
  go_enter Try.func60, Try.ntmps60
  go_wp2_with fail
  refine HE.out.mono ?_
  rintro e w2 ⟨v, rfl, r2, u2⟩
  obtain ⟨va, vc, rfl⟩ := row_form r2
  have I2 := Lib.hid (show Ints w2 (.slice va L vc) ys by
    have := Ints.ofRow (xs := ys) (w := w2) (base := w.heap.size) (v := .slice va L vc) (by rw [HL.out]; exact r2) (by rw [HL.out]; omega)
    exact this)
  have U2 := Lib.hid u2
  clear r2 u2
  go_wp2_with fail
  go_ret
  exact ⟨_, _, rfl, I2.out, U2.out⟩
def mxL (xs : List Int) : Int := xs.foldl max 0
theorem mxL_take {xs : List Int} {k : Nat} {x : Int} (h : xs[k]? = some x) : mxL (xs.take (k + 1)) = max (mxL (xs.take k)) x := by
  unfold mxL
  rw [List.take_add_one, h, List.foldl_append]
  rfl
set_option maxRecDepth 100000 in
theorem greatest_any (sv : Value) (xs : List Int) (w : World) (h : Ints w sv xs) : Calls Try.prog 63 #[sv] w fun e w' => e = .returned (.int .i64 (mxL xs)) ∧ w' = w := by
  have H := Lib.hid h
  have HT := Lib.hid (fun k x (h : xs[k]? = some x) => mxL_take h)
  have HE := Lib.hid (show mxL (xs.take xs.length) = mxL xs by rw [List.take_length])
  have hb := h.1
  obtain ⟨a, cap, rfl⟩ := h.form
  obtain ⟨L, hL⟩ : ∃ L, xs.length = L := ⟨_, rfl⟩
  have HL := Lib.hid hL
  rw [hL] at H HE hb ⊢
  have H0 := Lib.hid (show mxL (xs.take 0) = 0 from rfl)
  clear h hL
  go_enter Try.func63, Try.ntmps63
  go_wp2_with fail
  go_loop [3, 8] (fun s i => ∃ k : Nat, k ≤ L ∧ i = .int .i64 k ∧ s = .int .i64 (mxL (xs.take k))) (fun _ i => L - (intOf i).toNat)
  case atStart => exact ⟨0, Nat.zero_le _, rfl, by rw [H0.out]⟩
  case round =>
    obtain ⟨k, hk, rfl, rfl⟩ := hrel
    by_cases hlt : k < L
    · obtain ⟨x, hx⟩ : ∃ x, xs[k]? = some x := ⟨_, List.getElem?_eq_getElem (by rw [HL.out]; exact hlt)⟩
      obtain ⟨bb, off, rfl, c0⟩ := H.out.cellAt hx
      have HTk := Lib.hid (HT.out k x hx)
      generalize mxL (xs.take k) = S at *
      clear hx
      go_wp2_with fail
      go_round
      case rel => exact ⟨k + 1, by omega, by go_num, by rw [HTk.out]⟩
      case measure => simp [intOf]; omega
    · obtain rfl : k = L := by omega
      rw [HE.out]
      clear hlt
      go_wp2_with fail
      go_ret
      exact ⟨rfl, rfl⟩
set_option maxRecDepth 100000 in
theorem reaches_any (sc : Int) (s b : Nat) (c : Int) (w : World) (h : Memo w b) (hs : s ≤ 95) : Calls Try.prog 67 #[.agg #[.int .i64 sc, .int .i64 (stepN s : Nat), .pointer (some ⟨b, 0, none⟩)], .int .i64 c] w fun e w' => e = .returned (.bool (decide (c ≤ vlN s 1023))) ∧ Memo w' b ∧ Upd (fun k => k = b) w w' := by
  have HV := Lib.hid (fun W (h : Memo W b) => (show Calls Try.prog 47 #[.agg #[.int .i64 sc, .int .i64 (stepN s : Nat), .pointer (some ⟨b, 0, none⟩)], .int .i64 1023] W fun e w' => e = .returned (.int .i64 (vlN s 1023)) ∧ Memo w' b ∧ Upd (fun k => k = b) W w' from value_any sc s b 1023 W h hs (by omega)))
  generalize stepN s = t at *
  generalize vlN s 1023 = v at *
  have c0 := heap_alloc_new w (.cells #[.int .i64 sc, .int .i64 (t : Nat), .pointer (some ⟨b, 0, none⟩)] 57)
  obtain ⟨⟨d0, d1, d2⟩, _, _, _⟩ := cells3 c0
  have ub : Upd NoB w (w.alloc (.cells #[.int .i64 sc, .int .i64 (t : Nat), .pointer (some ⟨b, 0, none⟩)] 57)) := (Upd.refl _ _).alloc _
  have HM := Lib.hid (h.later ub)
  have UB := Lib.hid ub
  clear h hs c0 ub
  go_enter Try.func67, Try.ntmps67
  go_wp2_with fail
  refine (HV.out _ HM.out).mono ?_
  rintro e w2 ⟨rfl, m2, u2⟩
  have M2 := Lib.hid m2; have U2 := Lib.hid ((UB.out.mono (T := fun k => k = b) (fun _ _ h => h.elim)).trans u2 (fun _ _ h => h))
  clear m2 u2 d0 d1 d2
  go_wp2_with fail
  go_ret
  exact ⟨rfl, M2.out, U2.out⟩
end Go.Proofs.Yteioaeceobgbdaa
