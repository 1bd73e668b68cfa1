/- energy: squares, levels, their sums | energy: each and sum, for each function that they are given -/
import Derived.Test.YtgdndcbcdoogpaaDoorOH
import Derived.Test.YtgdndcbcdoogpaaDoorGi
import Derived.OwnWalk
namespace Go.Proofs.YtgdndcbcdoogpaaDoor
open Go.RowKit Go.Shelf

def sqs (xs : List Int) : Int := (xs.map fun v => v * v).sum
def lv (e : Int) : Int := (logN (e + 1).toNat : Nat)
def lvs (xs : List Int) : Int := (xs.map fun v => lv (v * v)).sum
def CoB (xs : List Int) : Prop := ∀ (j : Nat) (x : Int), xs[j]? = some x → -2097152 ≤ x ∧ x ≤ 2097152
theorem coB_of {xs : List Int} (h : inB (-2097152) 2097152 xs = true) : CoB xs := fun _ _ hj => inB_yes h hj
theorem sq_co {v : Int} (h : -2097152 ≤ v ∧ v ≤ 2097152) : 0 ≤ v * v ∧ v * v ≤ 4398046511104 := by
  rcases Int.le_total 0 v with h0 | h0
  · exact ⟨Int.mul_nonneg h0 h0, by have := Int.mul_le_mul h.2 h.2 h0 (by omega); omega⟩
  · have e : v * v = (-v) * (-v) := by rw [Int.neg_mul_neg]
    rw [e]
    have h3 : 0 ≤ -v := by omega
    exact ⟨Int.mul_nonneg h3 h3, by have := Int.mul_le_mul (show -v ≤ 2097152 by omega) (show -v ≤ 2097152 by omega) h3 (by omega); omega⟩
theorem lv_bd {e : Int} (h0 : 0 ≤ e) (h1 : e ≤ 72057594037927936) : 0 ≤ lv e ∧ lv e ≤ 16128 := by
  unfold lv
  have := logN_lt (n := (e + 1).toNat) (by omega) (by omega)
  omega
theorem fmap_take {f : Int → Int} {xs : List Int} {k : Nat} {x : Int} (h : xs[k]? = some x) : ((xs.take (k + 1)).map f).sum = ((xs.take k).map f).sum + f x := by
  rw [List.take_add_one, h, List.map_append, List.sum_append]; simp
theorem fsum_bd {f : Int → Int} {B : Int} {xs : List Int} (h : ∀ (j : Nat) (x : Int), xs[j]? = some x → 0 ≤ f x ∧ f x ≤ B) : ∀ k : Nat, 0 ≤ ((xs.take k).map f).sum ∧ ((xs.take k).map f).sum ≤ B * (min k xs.length : Nat)
  | 0 => by simp
  | k + 1 => by
    have ih := fsum_bd h k
    cases hx : xs[k]? with
    | none =>
      have hl := List.getElem?_eq_none_iff.1 hx
      have e : xs.take (k + 1) = xs.take k := by rw [List.take_add_one, hx]; simp
      rw [e, show min (k + 1) xs.length = min k xs.length by omega]
      exact ih
    | some x =>
      have hl := (List.getElem?_eq_some_iff.1 hx).1
      have hb := h k x hx
      rw [fmap_take hx, show min (k + 1) xs.length = min k xs.length + 1 by omega]
      rw [Int.natCast_add, Int.mul_add]
      omega
theorem sqs_bd {xs : List Int} (h : CoB xs) (hl : xs.length ≤ 300) : 0 ≤ sqs xs ∧ sqs xs ≤ 1319413953331200 := by
  have := fsum_bd (f := fun v => v * v) (fun j x hj => sq_co (h j x hj)) xs.length
  rw [List.take_length, Nat.min_self] at this
  unfold sqs
  omega
theorem lvs_bd {xs : List Int} (h : CoB xs) (hl : xs.length ≤ 300) : 0 ≤ lvs xs ∧ lvs xs ≤ 4838400 := by
  have := fsum_bd (f := fun v => lv (v * v)) (fun j x hj => lv_bd (sq_co (h j x hj)).1 (by have := (sq_co (h j x hj)).2; omega)) xs.length
  rw [List.take_length, Nat.min_self] at this
  unfold lvs
  omega
set_option maxRecDepth 100000 in
theorem square_any (v : Int) (w : World) (h : -2097152 ≤ v ∧ v ≤ 2097152) : Calls Tryd.prog 90 #[.int .i64 v] w fun e w' => e = .returned (.int .i64 (v * v)) ∧ w = w' := by
  have hb := sq_co h
  obtain ⟨q, hq⟩ : ∃ q, v * v = q := ⟨_, rfl⟩
  rw [hq] at hb ⊢
  have y1 : IntKind.i64.wrap (v * v) = q := by rw [hq]; exact IntWalk.i64_in _ (by omega)
  have y2 : wrap64 (v * v) = q := by rw [hq]; exact IntWalk.wrap64_in _ (by omega)
  clear hq hb
  go_enter Tryd.func90, Tryd.ntmps90
  go_wp2
  go_ret
  exact ⟨rfl, rfl⟩
set_option maxRecDepth 100000 in
theorem levelOf_any (e : Int) (w : World) (h0 : 0 ≤ e) (h1 : e ≤ 72057594037927936) : Calls Tryd.prog 78 #[.int .i64 e] w fun r w' => r = .returned (.int .i64 (lv e)) ∧ Upd NoB w w' := by
  have HL := Lib.hid (Log_any (e + 1) w)
  have hE : lgE (e + 1) = 0 := by
    rcases lgE_cases (e + 1) with h | h | h
    · omega
    · omega
    · exact h.2.2
  rw [hE] at HL
  have HR := Lib.hid (show onOk 0 ((logN (e + 1).toNat : Nat) : Int) = lv e from rfl)
  rw [HR.out] at HL
  generalize lv e = V at *
  clear hE
  go_enter Tryd.func78, Tryd.ntmps78
  go_wp2_with fail
  refine HL.out.mono ?_
  rintro r w' ⟨rfl, u1⟩
  have U1 := Lib.hid u1
  clear u1
  go_wp2_with fail
  go_ret
  exact ⟨rfl, U1.out⟩
set_option maxRecDepth 100000 in
theorem tone2_any (v : Int) (w : World) (h : -2097152 ≤ v ∧ v ≤ 2097152) : Calls Tryd.prog 92 #[.int .i64 v] w fun r w' => r = .returned (.int .i64 (lv (v * v))) ∧ Upd NoB w w' := by
  have hb := sq_co h
  have HS := Lib.hid (square_any v w h)
  have HL := Lib.hid (levelOf_any (v * v) w hb.1 (by omega))
  generalize lv (v * v) = V at *
  generalize v * v = q at *
  clear hb
  go_enter Tryd.func92, Tryd.ntmps92
  go_wp2_with fail
  refine HS.out.mono ?_
  rintro r w' ⟨rfl, rfl⟩
  go_wp2_with fail
  refine HL.out.mono ?_
  rintro r w' ⟨rfl, u1⟩
  have U1 := Lib.hid u1
  clear u1
  go_wp2_with fail
  go_ret
  exact ⟨rfl, U1.out⟩
set_option maxRecDepth 100000 in
set_option maxHeartbeats 2000000 in
theorem sumSq_any (sv : Value) (xs : List Int) (w : World) (h : Ints w sv xs) (hc : CoB xs) (hl : xs.length ≤ 300) : Calls Tryd.prog 89 #[sv, .func (.func 90) #[] #[]] w fun r w' => r = .returned (.int .i64 (sqs xs)) ∧ w = w' := by
  obtain ⟨a, cap, rfl⟩ := h.form
  have H := Lib.hid h; have HC := Lib.hid hc
  have HB := Lib.hid (fun k => fsum_bd (f := fun v => v * v) (fun j x hj => sq_co (hc j x hj)) k)
  have HE := Lib.hid (show ((xs.take xs.length).map fun v => v * v).sum = sqs xs by rw [List.take_length]; rfl)
  obtain ⟨L, hL⟩ : ∃ L, xs.length = L := ⟨_, rfl⟩
  have HL := Lib.hid hL
  rw [hL] at H hl HE HB ⊢
  clear h hL hc
  go_enter Tryd.func89, Tryd.ntmps89
  go_wp2_with fail
  go_loop [5, 10] (fun s i => ∃ k : Nat, k ≤ L ∧ i = .int .i64 k ∧ s = .int .i64 ((xs.take k).map fun v => v * v).sum) (fun _ i => L - (intOf i).toNat)
  case atStart => exact ⟨0, Nat.zero_le _, rfl, rfl⟩
  case round =>
    obtain ⟨k, hk, rfl, rfl⟩ := hrel
    by_cases hlt : k < L
    · obtain ⟨x, hx⟩ : ∃ x, xs[k]? = some x := ⟨_, List.getElem?_eq_getElem (by rw [HL.out]; exact hlt)⟩
      obtain ⟨bb, off, rfl, c0⟩ := H.out.cellAt hx
      have hxb := HC.out k x hx
      have HSq := Lib.hid (square_any x w hxb)
      obtain ⟨q0, q1⟩ := sq_co hxb
      have HSu := Lib.hid (fmap_take (f := fun v => v * v) hx)
      obtain ⟨s0, s1⟩ := HB.out k
      have hs2 : ((xs.take k).map fun v => v * v).sum ≤ 4398046511104 * 300 := by
        have : ((min k L : Nat) : Int) ≤ 300 := by omega
        omega
      generalize ((xs.take k).map fun v => v * v).sum = S at *
      generalize x * x = q at *
      clear hx hxb s1
      go_wp2_with fail
      refine HSq.out.mono ?_
      rintro r w' ⟨rfl, rfl⟩
      go_wp2_with fail
      go_round
      case rel => exact ⟨k + 1, by omega, by go_num, by rw [HSu.out]⟩
      case measure => simp [intOf]; omega
    · obtain rfl : k = L := by omega
      rw [HE.out]
      clear hlt
      go_wp2_with fail
      go_ret
      exact ⟨rfl, rfl⟩
set_option maxRecDepth 100000 in
set_option maxHeartbeats 2000000 in
theorem sumLv_any (sv : Value) (xs : List Int) (w : World) (h : Ints w sv xs) (hc : CoB xs) (hl : xs.length ≤ 300) : Calls Tryd.prog 89 #[sv, .func (.func 92) #[] #[]] w fun r w' => r = .returned (.int .i64 (lvs xs)) ∧ Upd NoB w w' := by
  obtain ⟨a, cap, rfl⟩ := h.form
  have H := Lib.hid h; have HC := Lib.hid hc
  have HB := Lib.hid (fun k => fsum_bd (f := fun v => lv (v * v)) (fun j x hj => lv_bd (sq_co (hc j x hj)).1 (by have := (sq_co (hc j x hj)).2; omega)) k)
  have HE := Lib.hid (show ((xs.take xs.length).map fun v => lv (v * v)).sum = lvs xs by rw [List.take_length]; rfl)
  obtain ⟨L, hL⟩ : ∃ L, xs.length = L := ⟨_, rfl⟩
  have HL := Lib.hid hL
  rw [hL] at H hl HE HB ⊢
  clear h hL hc
  go_enter Tryd.func89, Tryd.ntmps89
  go_wp2_with fail
  go_loopw [5, 10] (fun s i wr => ∃ k : Nat, k ≤ L ∧ i = .int .i64 k ∧ s = .int .i64 ((xs.take k).map fun v => lv (v * v)).sum ∧ Upd NoB w wr) (fun _ i _ => L - (intOf i).toNat)
  case atStart => exact ⟨0, Nat.zero_le _, rfl, rfl, Upd.refl _ _⟩
  case round =>
    obtain ⟨k, hk, rfl, rfl, hu⟩ := hrel
    have HU := Lib.hid hu
    by_cases hlt : k < L
    · obtain ⟨x, hx⟩ : ∃ x, xs[k]? = some x := ⟨_, List.getElem?_eq_getElem (by rw [HL.out]; exact hlt)⟩
      obtain ⟨bb, off, rfl, c0⟩ := (H.out.later hu).cellAt hx
      have hxb := HC.out k x hx
      have HSq := Lib.hid (tone2_any x wr hxb)
      obtain ⟨q0, q1⟩ := lv_bd (sq_co hxb).1 (by have := (sq_co hxb).2; omega)
      have HSu := Lib.hid (fmap_take (f := fun v => lv (v * v)) hx)
      obtain ⟨s0, s1⟩ := HB.out k
      have hs2 : ((xs.take k).map fun v => lv (v * v)).sum ≤ 16128 * 300 := by
        have : ((min k L : Nat) : Int) ≤ 300 := by omega
        omega
      generalize ((xs.take k).map fun v => lv (v * v)).sum = S at *
      generalize lv (x * x) = q at *
      clear hx hxb s1 hu
      go_wp2_with fail
      refine HSq.out.mono ?_
      rintro r w2 ⟨rfl, u2⟩
      have U2 := Lib.hid (HU.out.then u2)
      clear u2
      go_wp2_with fail
      go_roundw
      case rel => exact ⟨k + 1, by omega, by go_num, by rw [HSu.out], U2.out⟩
      case measure => simp [intOf]; omega
    · obtain rfl : k = L := by omega
      rw [HE.out]
      clear hlt hu
      go_wp2_with fail
      go_ret
      exact ⟨rfl, HU.out⟩
set_option maxRecDepth 100000 in
theorem energyOf_any (sv : Value) (xs : List Int) (w : World) (h : Ints w sv xs) (hc : CoB xs) (hl : xs.length ≤ 300) : Calls Tryd.prog 69 #[sv] w fun r w' => r = .returned (.int .i64 (sqs xs)) ∧ w = w' := by
  have HS := Lib.hid (sumSq_any sv xs w h hc hl)
  obtain ⟨a, cap, rfl⟩ := h.form
  generalize sqs xs = V at *
  generalize xs.length = L at *
  clear h hc hl
  go_enter Tryd.func69, Tryd.ntmps69
  go_wp2_with fail
  refine HS.out.mono ?_
  rintro r w' ⟨rfl, rfl⟩
  go_wp2_with fail
  go_ret
  exact ⟨rfl, rfl⟩
end Go.Proofs.YtgdndcbcdoogpaaDoor

namespace Go.Proofs.YtgdndcbcdoogpaaDoor
open Go.RowKit Go.Shelf

/-- The slice v holds these parts. -/
def Parts (w : World) (v : Value) (ps : List (List Int)) : Prop := ∃ b c, v = .slice (some ⟨b, 0, none⟩) ps.length c ∧ ∀ k xs, ps[k]? = some xs → ∃ a cap, w.cell? ⟨b, k, none⟩ = some (.slice a xs.length cap) ∧ Ints w (.slice a xs.length cap) xs
theorem Parts.later {w w' : World} {v : Value} {ps : List (List Int)} (h : Parts w v ps) (u : Upd NoB w w') : Parts w' v ps := by
  obtain ⟨b, c, e, hk⟩ := h
  refine ⟨b, c, e, fun k xs hx => ?_⟩
  obtain ⟨a, cap, h1, h2⟩ := hk k xs hx
  exact ⟨a, cap, u.cell h1 (noB _), h2.later u⟩
theorem mmap_take {α : Type} {f : α → Int} {ps : List α} {k : Nat} {x : α} (h : ps[k]? = some x) : (ps.take (k + 1)).map f = (ps.take k).map f ++ [f x] := by
  rw [List.take_add_one, h, List.map_append]; rfl
theorem msum_take {α : Type} {f : α → Int} {ps : List α} {k : Nat} {x : α} (h : ps[k]? = some x) : ((ps.take (k + 1)).map f).sum = ((ps.take k).map f).sum + f x := by
  rw [mmap_take h, List.sum_append]; simp
theorem msum_bd {α : Type} {f : α → Int} {B : Int} {ps : List α} (hB : 0 ≤ B) (h : ∀ (j : Nat) (x : α), ps[j]? = some x → 0 ≤ f x ∧ f x ≤ B) : ∀ k : Nat, 0 ≤ ((ps.take k).map f).sum ∧ ((ps.take k).map f).sum ≤ B * (k : Int)
  | 0 => by simp
  | k + 1 => by
    have ih := msum_bd hB h k
    rw [Int.natCast_add, Int.mul_add]
    cases hx : ps[k]? with
    | none =>
      have e : ps.take (k + 1) = ps.take k := by rw [List.take_add_one, hx]; simp
      rw [e]; omega
    | some x =>
      have hb := h k x hx
      rw [msum_take hx]
      omega
set_option maxRecDepth 100000 in
set_option maxHeartbeats 2000000 in
theorem eachEn_any (sv : Value) (ps : List (List Int)) (f : (List Int) → Int) (w : World) (h : Parts w sv ps) (hl : ps.length ≤ 1000)
    (HF : ∀ (k : Nat) (x : List Int) (a : Option Addr) (cap : Nat) (w' : World), ps[k]? = some x → Upd NoB w w' → Ints w' (.slice a x.length cap) x → Calls Tryd.prog 69 #[.slice a x.length cap] w' fun r w'' => r = .returned (.int .i64 (f x)) ∧ Upd NoB w' w'') :
    Calls Tryd.prog 68 #[sv, .func (.func 69) #[] #[]] w (IRes w (ps.map f)) := by
  obtain ⟨b, c, rfl, hk⟩ := h
  have HK := Lib.hid hk
  have HF := Lib.hid HF
  have HE := Lib.hid (show (ps.take ps.length).map f = ps.map f by rw [List.take_length])
  have HLn := Lib.hid (show (ps.map f).length = ps.length by rw [List.length_map])
  obtain ⟨i0, hi, hz0, hz1, hz2⟩ := info_parts Tryd.infoInt
  obtain ⟨L, hL⟩ : ∃ L, ps.length = L := ⟨_, rfl⟩
  have HL := Lib.hid hL
  rw [hL] at hl HE HLn ⊢
  clear hL hk
  go_enter Tryd.func68, Tryd.ntmps68
  go_wp2_with (refine wpList_make_own w rfl _ _ 22 rfl w.heap.size 3 i0 (.int .i64 0) 1 Tryd.underlying22 hi hz0 hz1 .i64 .i64 _ L rfl rfl rfl ?c1 ?c2 ?c3 ?_)
  case c1 => rw [hz2]; omega
  case c2 => unfold maxLen; omega
  case c3 => exact Nat.le_refl _
  intro w1 hown hgr
  have HO := Lib.hid hown; have U1 := Lib.hid (show Upd NoB w w1 from (Upd.refl _ _).grown hgr (fun k e => by cases e))
  clear hown hgr
  go_wp2_with fail
  go_loopw [5, 13] (fun v i wr => ∃ k : Nat, k ≤ L ∧ i = .int .i64 k ∧ wr.ownsRow w.heap.size 3 1 v k (i64s ((ps.take k).map f)) ∧ Upd NoB w wr) (fun _ i _ => L - (intOf i).toNat)
  case atStart => exact ⟨0, Nat.zero_le _, rfl, HO.out, U1.out⟩
  case round =>
    obtain ⟨k, hk, rfl, hown, hu⟩ := hrel
    obtain ⟨va, vc, rfl⟩ := row_form hown
    have HOw := Lib.hid hown; have HU := Lib.hid hu
    by_cases hlt : k < L
    · obtain ⟨x, hx⟩ : ∃ x, ps[k]? = some x := ⟨_, List.getElem?_eq_getElem (by rw [HL.out]; exact hlt)⟩
      obtain ⟨xa, xc, cx, ix⟩ := HK.out k x hx
      have c0 := hu.cell cx (noB _)
      have HFx := Lib.hid (HF.out k x xa xc wr hx hu (ix.later hu))
      generalize x.length = xl at *
      have HM := Lib.hid (mmap_take (f := f) hx)
      generalize (ps.take k).map f = ys at *
      generalize f x = y at *
      clear hx hown hu cx ix
      go_wp2_with fail
      refine HFx.out.mono ?_
      rintro r w2 ⟨rfl, u2⟩
      have O2 := Lib.hid (u2.row HOw.out (fun j _ => noB j)); have U2 := Lib.hid (HU.out.then u2)
      have hb2 := U2.out.size
      clear u2
      go_wp2_with (at_builtin; refine wpList_push rfl (.tmp 17) (.tmp 21) rfl w.heap.size (.slice va k vc) k ys y rfl rfl O2.out (by omega) hb2 ?_; intro v' w' hown' u'; have R' := Lib.hid hown'; have U' := Lib.hid u'; clear hown' u')
      go_roundw
      case rel => exact ⟨k + 1, by omega, by go_num, by rw [HM.out]; exact R'.out, upd_ge ((upd_ge' U2.out w.heap.size).trans U'.out (fun _ _ h => h))⟩
      case measure => simp [intOf]; omega
    · obtain rfl : k = L := by omega
      rw [HE.out] at HOw
      clear hlt hown hu
      go_wp2_with fail
      go_ret
      exact ⟨_, rfl, by rw [HLn.out]; exact HOw.out, HU.out⟩
set_option maxRecDepth 100000 in
set_option maxHeartbeats 2000000 in
theorem eachTo_any (sv : Value) (ps : List (List Int)) (f : (List Int) → Int) (w : World) (h : Parts w sv ps) (hl : ps.length ≤ 1000)
    (HF : ∀ (k : Nat) (x : List Int) (a : Option Addr) (cap : Nat) (w' : World), ps[k]? = some x → Upd NoB w w' → Ints w' (.slice a x.length cap) x → Calls Tryd.prog 74 #[.slice a x.length cap] w' fun r w'' => r = .returned (.int .i64 (f x)) ∧ Upd NoB w' w'') :
    Calls Tryd.prog 68 #[sv, .func (.func 74) #[] #[]] w (IRes w (ps.map f)) := by
  obtain ⟨b, c, rfl, hk⟩ := h
  have HK := Lib.hid hk
  have HF := Lib.hid HF
  have HE := Lib.hid (show (ps.take ps.length).map f = ps.map f by rw [List.take_length])
  have HLn := Lib.hid (show (ps.map f).length = ps.length by rw [List.length_map])
  obtain ⟨i0, hi, hz0, hz1, hz2⟩ := info_parts Tryd.infoInt
  obtain ⟨L, hL⟩ : ∃ L, ps.length = L := ⟨_, rfl⟩
  have HL := Lib.hid hL
  rw [hL] at hl HE HLn ⊢
  clear hL hk
  go_enter Tryd.func68, Tryd.ntmps68
  go_wp2_with (refine wpList_make_own w rfl _ _ 22 rfl w.heap.size 3 i0 (.int .i64 0) 1 Tryd.underlying22 hi hz0 hz1 .i64 .i64 _ L rfl rfl rfl ?c1 ?c2 ?c3 ?_)
  case c1 => rw [hz2]; omega
  case c2 => unfold maxLen; omega
  case c3 => exact Nat.le_refl _
  intro w1 hown hgr
  have HO := Lib.hid hown; have U1 := Lib.hid (show Upd NoB w w1 from (Upd.refl _ _).grown hgr (fun k e => by cases e))
  clear hown hgr
  go_wp2_with fail
  go_loopw [5, 13] (fun v i wr => ∃ k : Nat, k ≤ L ∧ i = .int .i64 k ∧ wr.ownsRow w.heap.size 3 1 v k (i64s ((ps.take k).map f)) ∧ Upd NoB w wr) (fun _ i _ => L - (intOf i).toNat)
  case atStart => exact ⟨0, Nat.zero_le _, rfl, HO.out, U1.out⟩
  case round =>
    obtain ⟨k, hk, rfl, hown, hu⟩ := hrel
    obtain ⟨va, vc, rfl⟩ := row_form hown
    have HOw := Lib.hid hown; have HU := Lib.hid hu
    by_cases hlt : k < L
    · obtain ⟨x, hx⟩ : ∃ x, ps[k]? = some x := ⟨_, List.getElem?_eq_getElem (by rw [HL.out]; exact hlt)⟩
      obtain ⟨xa, xc, cx, ix⟩ := HK.out k x hx
      have c0 := hu.cell cx (noB _)
      have HFx := Lib.hid (HF.out k x xa xc wr hx hu (ix.later hu))
      generalize x.length = xl at *
      have HM := Lib.hid (mmap_take (f := f) hx)
      generalize (ps.take k).map f = ys at *
      generalize f x = y at *
      clear hx hown hu cx ix
      go_wp2_with fail
      refine HFx.out.mono ?_
      rintro r w2 ⟨rfl, u2⟩
      have O2 := Lib.hid (u2.row HOw.out (fun j _ => noB j)); have U2 := Lib.hid (HU.out.then u2)
      have hb2 := U2.out.size
      clear u2
      go_wp2_with (at_builtin; refine wpList_push rfl (.tmp 17) (.tmp 21) rfl w.heap.size (.slice va k vc) k ys y rfl rfl O2.out (by omega) hb2 ?_; intro v' w' hown' u'; have R' := Lib.hid hown'; have U' := Lib.hid u'; clear hown' u')
      go_roundw
      case rel => exact ⟨k + 1, by omega, by go_num, by rw [HM.out]; exact R'.out, upd_ge ((upd_ge' U2.out w.heap.size).trans U'.out (fun _ _ h => h))⟩
      case measure => simp [intOf]; omega
    · obtain rfl : k = L := by omega
      rw [HE.out] at HOw
      clear hlt hown hu
      go_wp2_with fail
      go_ret
      exact ⟨_, rfl, by rw [HLn.out]; exact HOw.out, HU.out⟩
set_option maxRecDepth 100000 in
set_option maxHeartbeats 2000000 in
theorem eachLv_any (sv : Value) (ps : List Int) (f : Int → Int) (w : World) (h : Ints w sv ps) (hl : ps.length ≤ 1000)
    (HF : ∀ (k : Nat) (x : Int)  (w' : World), ps[k]? = some x → Upd NoB w w' → Calls Tryd.prog 78 #[.int .i64 x] w' fun r w'' => r = .returned (.int .i64 (f x)) ∧ Upd NoB w' w'') :
    Calls Tryd.prog 77 #[sv, .func (.func 78) #[] #[]] w (IRes w (ps.map f)) := by
  obtain ⟨a, cap, rfl⟩ := h.form
  have H := Lib.hid h
  have HF := Lib.hid HF
  have HE := Lib.hid (show (ps.take ps.length).map f = ps.map f by rw [List.take_length])
  have HLn := Lib.hid (show (ps.map f).length = ps.length by rw [List.length_map])
  obtain ⟨i0, hi, hz0, hz1, hz2⟩ := info_parts Tryd.infoInt
  obtain ⟨L, hL⟩ : ∃ L, ps.length = L := ⟨_, rfl⟩
  have HL := Lib.hid hL
  rw [hL] at hl HE HLn H ⊢
  clear hL h
  go_enter Tryd.func77, Tryd.ntmps77
  go_wp2_with (refine wpList_make_own w rfl _ _ 22 rfl w.heap.size 3 i0 (.int .i64 0) 1 Tryd.underlying22 hi hz0 hz1 .i64 .i64 _ L rfl rfl rfl ?c1 ?c2 ?c3 ?_)
  case c1 => rw [hz2]; omega
  case c2 => unfold maxLen; omega
  case c3 => exact Nat.le_refl _
  intro w1 hown hgr
  have HO := Lib.hid hown; have U1 := Lib.hid (show Upd NoB w w1 from (Upd.refl _ _).grown hgr (fun k e => by cases e))
  clear hown hgr
  go_wp2_with fail
  go_loopw [5, 13] (fun v i wr => ∃ k : Nat, k ≤ L ∧ i = .int .i64 k ∧ wr.ownsRow w.heap.size 3 1 v k (i64s ((ps.take k).map f)) ∧ Upd NoB w wr) (fun _ i _ => L - (intOf i).toNat)
  case atStart => exact ⟨0, Nat.zero_le _, rfl, HO.out, U1.out⟩
  case round =>
    obtain ⟨k, hk, rfl, hown, hu⟩ := hrel
    obtain ⟨va, vc, rfl⟩ := row_form hown
    have HOw := Lib.hid hown; have HU := Lib.hid hu
    by_cases hlt : k < L
    · obtain ⟨x, hx⟩ : ∃ x, ps[k]? = some x := ⟨_, List.getElem?_eq_getElem (by rw [HL.out]; exact hlt)⟩
      obtain ⟨bb, off, rfl, c0⟩ := (H.out.later hu).cellAt hx
      have HFx := Lib.hid (HF.out k x wr hx hu)
      have HM := Lib.hid (mmap_take (f := f) hx)
      generalize (ps.take k).map f = ys at *
      generalize f x = y at *
      clear hx hown hu
      go_wp2_with fail
      refine HFx.out.mono ?_
      rintro r w2 ⟨rfl, u2⟩
      have O2 := Lib.hid (u2.row HOw.out (fun j _ => noB j)); have U2 := Lib.hid (HU.out.then u2)
      have hb2 := U2.out.size
      clear u2
      go_wp2_with (at_builtin; refine wpList_push rfl (.tmp 17) (.tmp 21) rfl w.heap.size (.slice va k vc) k ys y rfl rfl O2.out (by omega) hb2 ?_; intro v' w' hown' u'; have R' := Lib.hid hown'; have U' := Lib.hid u'; clear hown' u')
      go_roundw
      case rel => exact ⟨k + 1, by omega, by go_num, by rw [HM.out]; exact R'.out, upd_ge ((upd_ge' U2.out w.heap.size).trans U'.out (fun _ _ h => h))⟩
      case measure => simp [intOf]; omega
    · obtain rfl : k = L := by omega
      rw [HE.out] at HOw
      clear hlt hown hu
      go_wp2_with fail
      go_ret
      exact ⟨_, rfl, by rw [HLn.out]; exact HOw.out, HU.out⟩
set_option maxRecDepth 100000 in
set_option maxHeartbeats 2000000 in
theorem sumParts_any (sv : Value) (ps : List (List Int)) (f : List Int → Int) (w : World) (h : Parts w sv ps) (hl : ps.length ≤ 100) (hb : ∀ (j : Nat) (x : List Int), ps[j]? = some x → 0 ≤ f x ∧ f x ≤ 1319413953331200)
    (HF : ∀ (k : Nat) (x : List Int) (a : Option Addr) (cap : Nat) (w' : World), ps[k]? = some x → Upd NoB w w' → Ints w' (.slice a x.length cap) x → Calls Tryd.prog 69 #[.slice a x.length cap] w' fun r w'' => r = .returned (.int .i64 (f x)) ∧ Upd NoB w' w'') :
    Calls Tryd.prog 73 #[sv, .func (.func 69) #[] #[]] w fun r w' => r = .returned (.int .i64 (ps.map f).sum) ∧ Upd NoB w w' := by
  obtain ⟨b, c, rfl, hk⟩ := h
  have HK := Lib.hid hk
  have HF := Lib.hid HF; have HBd := Lib.hid hb
  have HB := Lib.hid (fun k => msum_bd (by omega) hb k)
  have HE := Lib.hid (show ((ps.take ps.length).map f).sum = (ps.map f).sum by rw [List.take_length])
  obtain ⟨L, hL⟩ : ∃ L, ps.length = L := ⟨_, rfl⟩
  have HL := Lib.hid hL
  rw [hL] at hl HE ⊢
  clear hL hk hb
  go_enter Tryd.func73, Tryd.ntmps73
  go_wp2_with fail
  go_loopw [5, 10] (fun s i wr => ∃ k : Nat, k ≤ L ∧ i = .int .i64 k ∧ s = .int .i64 ((ps.take k).map f).sum ∧ Upd NoB w wr) (fun _ i _ => L - (intOf i).toNat)
  case atStart => exact ⟨0, Nat.zero_le _, rfl, rfl, Upd.refl _ _⟩
  case round =>
    obtain ⟨k, hk, rfl, rfl, hu⟩ := hrel
    have HU := Lib.hid hu
    by_cases hlt : k < L
    · obtain ⟨x, hx⟩ : ∃ x, ps[k]? = some x := ⟨_, List.getElem?_eq_getElem (by rw [HL.out]; exact hlt)⟩
      obtain ⟨xa, xc, cx, ix⟩ := HK.out k x hx
      have c0 := hu.cell cx (noB _)
      have HFx := Lib.hid (HF.out k x xa xc wr hx hu (ix.later hu))
      obtain ⟨q0, q1⟩ := HBd.out k x hx
      have HSu := Lib.hid (msum_take (f := f) hx)
      obtain ⟨s0, s1⟩ := HB.out k
      have hs2 : ((ps.take k).map f).sum ≤ 1319413953331200 * 100 := by omega
      generalize ((ps.take k).map f).sum = S at *
      generalize f x = q at *
      generalize x.length = xl at *
      clear hx s1 hu cx ix
      go_wp2_with fail
      refine HFx.out.mono ?_
      rintro r w2 ⟨rfl, u2⟩
      have U2 := Lib.hid (HU.out.then u2)
      clear u2
      go_wp2_with fail
      go_roundw
      case rel => exact ⟨k + 1, by omega, by go_num, by rw [HSu.out], U2.out⟩
      case measure => simp [intOf]; omega
    · obtain rfl : k = L := by omega
      rw [HE.out]
      clear hlt hu
      go_wp2_with fail
      go_ret
      exact ⟨rfl, HU.out⟩
end Go.Proofs.YtgdndcbcdoogpaaDoor
