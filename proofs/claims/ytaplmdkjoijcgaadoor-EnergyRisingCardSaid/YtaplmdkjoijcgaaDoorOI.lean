/- energy: squares, levels, their sums -/
import Derived.Test.YtaplmdkjoijcgaaDoorOH
import Derived.Test.YtaplmdkjoijcgaaDoorFM
namespace Go.Proofs.YtaplmdkjoijcgaaDoor
open Go.RowKit Go.Shelf

def sqs (xs : List Int) : Int := (xs.map fun v => v * v).sum
def lv (e : Int) : Int := (logN (e + 1).toNat : Nat)
def lvs (xs : List Int) : Int := (xs.map fun v => lv (v * v)).sum
def CoB (xs : List Int) : Prop := ∀ (j : Nat) (x : Int), xs[j]? = some x → -2097152 ≤ x ∧ x ≤ 2097152
theorem coB_of {xs : List Int} (h : inB (-2097152) 2097152 xs = true) : CoB xs := fun _ _ hj => inB_yes h hj
theorem sq_co {v : Int} (h : -2097152 ≤ v ∧ v ≤ 2097152) : 0 ≤ v * v ∧ v * v ≤ 4398046511104 := by
  rcases Int.le_total 0 v with h0 | h0
  · exact ⟨Int.mul_nonneg h0 h0, by have := Int.mul_le_mul h.2 h.2 h0 (by omega); omega⟩
  · have e : v * v = (-v) * (-v) := by rw [Int.neg_mul_neg]
    rw [e]
    have h3 : 0 ≤ -v := by omega
    exact ⟨Int.mul_nonneg h3 h3, by have := Int.mul_le_mul (show -v ≤ 2097152 by omega) (show -v ≤ 2097152 by omega) h3 (by omega); omega⟩
theorem lv_bd {e : Int} (h0 : 0 ≤ e) (h1 : e ≤ 72057594037927936) : 0 ≤ lv e ∧ lv e ≤ 16128 := by
  unfold lv
  have := logN_lt (n := (e + 1).toNat) (by omega) (by omega)
  omega
theorem fmap_take {f : Int → Int} {xs : List Int} {k : Nat} {x : Int} (h : xs[k]? = some x) : ((xs.take (k + 1)).map f).sum = ((xs.take k).map f).sum + f x := by
  rw [List.take_add_one, h, List.map_append, List.sum_append]; simp
theorem fsum_bd {f : Int → Int} {B : Int} {xs : List Int} (h : ∀ (j : Nat) (x : Int), xs[j]? = some x → 0 ≤ f x ∧ f x ≤ B) : ∀ k : Nat, 0 ≤ ((xs.take k).map f).sum ∧ ((xs.take k).map f).sum ≤ B * (min k xs.length : Nat)
  | 0 => by simp
  | k + 1 => by
    have ih := fsum_bd h k
    cases hx : xs[k]? with
    | none =>
      have hl := List.getElem?_eq_none_iff.1 hx
      have e : xs.take (k + 1) = xs.take k := by rw [List.take_add_one, hx]; simp
      rw [e, show min (k + 1) xs.length = min k xs.length by omega]
      exact ih
    | some x =>
      have hl := (List.getElem?_eq_some_iff.1 hx).1
      have hb := h k x hx
      rw [fmap_take hx, show min (k + 1) xs.length = min k xs.length + 1 by omega]
      rw [Int.natCast_add, Int.mul_add]
      omega
theorem sqs_bd {xs : List Int} (h : CoB xs) (hl : xs.length ≤ 300) : 0 ≤ sqs xs ∧ sqs xs ≤ 1319413953331200 := by
  have := fsum_bd (f := fun v => v * v) (fun j x hj => sq_co (h j x hj)) xs.length
  rw [List.take_length, Nat.min_self] at this
  unfold sqs
  omega
theorem lvs_bd {xs : List Int} (h : CoB xs) (hl : xs.length ≤ 300) : 0 ≤ lvs xs ∧ lvs xs ≤ 4838400 := by
  have := fsum_bd (f := fun v => lv (v * v)) (fun j x hj => lv_bd (sq_co (h j x hj)).1 (by have := (sq_co (h j x hj)).2; omega)) xs.length
  rw [List.take_length, Nat.min_self] at this
  unfold lvs
  omega
set_option maxRecDepth 100000 in
theorem square_any (v : Int) (w : World) (h : -2097152 ≤ v ∧ v ≤ 2097152) : Calls Tryd.prog 90 #[.int .i64 v] w fun e w' => e = .returned (.int .i64 (v * v)) ∧ w = w' := by
  have hb := sq_co h
  obtain ⟨q, hq⟩ : ∃ q, v * v = q := ⟨_, rfl⟩
  rw [hq] at hb ⊢
  have y1 : IntKind.i64.wrap (v * v) = q := by rw [hq]; exact IntWalk.i64_in _ (by omega)
  have y2 : wrap64 (v * v) = q := by rw [hq]; exact IntWalk.wrap64_in _ (by omega)
  clear hq hb
  go_enter Tryd.func90, Tryd.ntmps90
  go_wp2
  go_ret
  exact ⟨rfl, rfl⟩
set_option maxRecDepth 100000 in
theorem levelOf_any (e : Int) (w : World) (h0 : 0 ≤ e) (h1 : e ≤ 72057594037927936) : Calls Tryd.prog 78 #[.int .i64 e] w fun r w' => r = .returned (.int .i64 (lv e)) ∧ Upd NoB w w' := by
  have HL := Lib.hid (Log_any (e + 1) w)
  have hE : lgE (e + 1) = 0 := by
    rcases lgE_cases (e + 1) with h | h | h
    · omega
    · omega
    · exact h.2.2
  rw [hE] at HL
  have HR := Lib.hid (show onOk 0 ((logN (e + 1).toNat : Nat) : Int) = lv e from rfl)
  rw [HR.out] at HL
  generalize lv e = V at *
  clear hE
  go_enter Tryd.func78, Tryd.ntmps78
  go_wp2_with fail
  refine HL.out.mono ?_
  rintro r w' ⟨rfl, u1⟩
  have U1 := Lib.hid u1
  clear u1
  go_wp2_with fail
  go_ret
  exact ⟨rfl, U1.out⟩
set_option maxRecDepth 100000 in
theorem tone2_any (v : Int) (w : World) (h : -2097152 ≤ v ∧ v ≤ 2097152) : Calls Tryd.prog 92 #[.int .i64 v] w fun r w' => r = .returned (.int .i64 (lv (v * v))) ∧ Upd NoB w w' := by
  have hb := sq_co h
  have HS := Lib.hid (square_any v w h)
  have HL := Lib.hid (levelOf_any (v * v) w hb.1 (by omega))
  generalize lv (v * v) = V at *
  generalize v * v = q at *
  clear hb
  go_enter Tryd.func92, Tryd.ntmps92
  go_wp2_with fail
  refine HS.out.mono ?_
  rintro r w' ⟨rfl, rfl⟩
  go_wp2_with fail
  refine HL.out.mono ?_
  rintro r w' ⟨rfl, u1⟩
  have U1 := Lib.hid u1
  clear u1
  go_wp2_with fail
  go_ret
  exact ⟨rfl, U1.out⟩
set_option maxRecDepth 100000 in
set_option maxHeartbeats 2000000 in
theorem sumSq_any (sv : Value) (xs : List Int) (w : World) (h : Ints w sv xs) (hc : CoB xs) (hl : xs.length ≤ 300) : Calls Tryd.prog 89 #[sv, .func (.func 90) #[] #[]] w fun r w' => r = .returned (.int .i64 (sqs xs)) ∧ w = w' := by
  obtain ⟨a, cap, rfl⟩ := h.form
  have H := Lib.hid h; have HC := Lib.hid hc
  have HB := Lib.hid (fun k => fsum_bd (f := fun v => v * v) (fun j x hj => sq_co (hc j x hj)) k)
  have HE := Lib.hid (show ((xs.take xs.length).map fun v => v * v).sum = sqs xs by rw [List.take_length]; rfl)
  obtain ⟨L, hL⟩ : ∃ L, xs.length = L := ⟨_, rfl⟩
  have HL := Lib.hid hL
  rw [hL] at H hl HE HB ⊢
  clear h hL hc
  go_enter Tryd.func89, Tryd.ntmps89
  go_wp2_with fail
  go_loop [5, 10] (fun s i => ∃ k : Nat, k ≤ L ∧ i = .int .i64 k ∧ s = .int .i64 ((xs.take k).map fun v => v * v).sum) (fun _ i => L - (intOf i).toNat)
  case atStart => exact ⟨0, Nat.zero_le _, rfl, rfl⟩
  case round =>
    obtain ⟨k, hk, rfl, rfl⟩ := hrel
    by_cases hlt : k < L
    · obtain ⟨x, hx⟩ : ∃ x, xs[k]? = some x := ⟨_, List.getElem?_eq_getElem (by rw [HL.out]; exact hlt)⟩
      obtain ⟨bb, off, rfl, c0⟩ := H.out.cellAt hx
      have hxb := HC.out k x hx
      have HSq := Lib.hid (square_any x w hxb)
      obtain ⟨q0, q1⟩ := sq_co hxb
      have HSu := Lib.hid (fmap_take (f := fun v => v * v) hx)
      obtain ⟨s0, s1⟩ := HB.out k
      have hs2 : ((xs.take k).map fun v => v * v).sum ≤ 4398046511104 * 300 := by
        have : ((min k L : Nat) : Int) ≤ 300 := by omega
        omega
      generalize ((xs.take k).map fun v => v * v).sum = S at *
      generalize x * x = q at *
      clear hx hxb s1
      go_wp2_with fail
      refine HSq.out.mono ?_
      rintro r w' ⟨rfl, rfl⟩
      go_wp2_with fail
      go_round
      case rel => exact ⟨k + 1, by omega, by go_num, by rw [HSu.out]⟩
      case measure => simp [intOf]; omega
    · obtain rfl : k = L := by omega
      rw [HE.out]
      clear hlt
      go_wp2_with fail
      go_ret
      exact ⟨rfl, rfl⟩
set_option maxRecDepth 100000 in
set_option maxHeartbeats 2000000 in
theorem sumLv_any (sv : Value) (xs : List Int) (w : World) (h : Ints w sv xs) (hc : CoB xs) (hl : xs.length ≤ 300) : Calls Tryd.prog 89 #[sv, .func (.func 92) #[] #[]] w fun r w' => r = .returned (.int .i64 (lvs xs)) ∧ Upd NoB w w' := by
  obtain ⟨a, cap, rfl⟩ := h.form
  have H := Lib.hid h; have HC := Lib.hid hc
  have HB := Lib.hid (fun k => fsum_bd (f := fun v => lv (v * v)) (fun j x hj => lv_bd (sq_co (hc j x hj)).1 (by have := (sq_co (hc j x hj)).2; omega)) k)
  have HE := Lib.hid (show ((xs.take xs.length).map fun v => lv (v * v)).sum = lvs xs by rw [List.take_length]; rfl)
  obtain ⟨L, hL⟩ : ∃ L, xs.length = L := ⟨_, rfl⟩
  have HL := Lib.hid hL
  rw [hL] at H hl HE HB ⊢
  clear h hL hc
  go_enter Tryd.func89, Tryd.ntmps89
  go_wp2_with fail
  go_loopw [5, 10] (fun s i wr => ∃ k : Nat, k ≤ L ∧ i = .int .i64 k ∧ s = .int .i64 ((xs.take k).map fun v => lv (v * v)).sum ∧ Upd NoB w wr) (fun _ i _ => L - (intOf i).toNat)
  case atStart => exact ⟨0, Nat.zero_le _, rfl, rfl, Upd.refl _ _⟩
  case round =>
    obtain ⟨k, hk, rfl, rfl, hu⟩ := hrel
    have HU := Lib.hid hu
    by_cases hlt : k < L
    · obtain ⟨x, hx⟩ : ∃ x, xs[k]? = some x := ⟨_, List.getElem?_eq_getElem (by rw [HL.out]; exact hlt)⟩
      obtain ⟨bb, off, rfl, c0⟩ := (H.out.later hu).cellAt hx
      have hxb := HC.out k x hx
      have HSq := Lib.hid (tone2_any x wr hxb)
      obtain ⟨q0, q1⟩ := lv_bd (sq_co hxb).1 (by have := (sq_co hxb).2; omega)
      have HSu := Lib.hid (fmap_take (f := fun v => lv (v * v)) hx)
      obtain ⟨s0, s1⟩ := HB.out k
      have hs2 : ((xs.take k).map fun v => lv (v * v)).sum ≤ 16128 * 300 := by
        have : ((min k L : Nat) : Int) ≤ 300 := by omega
        omega
      generalize ((xs.take k).map fun v => lv (v * v)).sum = S at *
      generalize lv (x * x) = q at *
      clear hx hxb s1 hu
      go_wp2_with fail
      refine HSq.out.mono ?_
      rintro r w2 ⟨rfl, u2⟩
      have U2 := Lib.hid (HU.out.then u2)
      clear u2
      go_wp2_with fail
      go_roundw
      case rel => exact ⟨k + 1, by omega, by go_num, by rw [HSu.out], U2.out⟩
      case measure => simp [intOf]; omega
    · obtain rfl : k = L := by omega
      rw [HE.out]
      clear hlt hu
      go_wp2_with fail
      go_ret
      exact ⟨rfl, HU.out⟩
set_option maxRecDepth 100000 in
theorem energyOf_any (sv : Value) (xs : List Int) (w : World) (h : Ints w sv xs) (hc : CoB xs) (hl : xs.length ≤ 300) : Calls Tryd.prog 69 #[sv] w fun r w' => r = .returned (.int .i64 (sqs xs)) ∧ w = w' := by
  have HS := Lib.hid (sumSq_any sv xs w h hc hl)
  obtain ⟨a, cap, rfl⟩ := h.form
  generalize sqs xs = V at *
  generalize xs.length = L at *
  clear h hc hl
  go_enter Tryd.func69, Tryd.ntmps69
  go_wp2_with fail
  refine HS.out.mono ?_
  rintro r w' ⟨rfl, rfl⟩
  go_wp2_with fail
  go_ret
  exact ⟨rfl, rfl⟩
end Go.Proofs.YtaplmdkjoijcgaaDoor
